package decimal

import (
	"strconv"
	"testing"

	"quadrat/api"
)

// enough is so many digits that each float of a kind reads back.
func enough(kind int) int {
	return map[int]int{2: 5, 4: 9, 8: 17}[kind]
}

// checkBack reads back what Plain and Digits tell of a float.
func checkBack(t *testing.T, kind, a int) {
	t.Helper()
	want := a
	if sizeOf(kind, a) > infBits(kind) {
		want = quietBits(kind)
	}
	plain, err := Plain(kind, a)
	if out, _, e := Read(plain, kind, 0); out != want || err != api.OK || e != api.OK || !Is(plain) {
		t.Fatalf("Plain of %#x, kind %d: %s, %d reads %#x, %d", uint64(a), kind, plain, err, uint64(out), e)
	}
	if size := sizeOf(kind, a); size == 0 || size >= infBits(kind) {
		return
	}
	sign, digits, x, _ := Digits(kind, 0, a, enough(kind))
	text := []string{"", "-"}[sign] + "." + digits + "E" + strconv.Itoa(x)
	if out, _, err := Read(text, kind, 0); out != a || err != api.OK || len(digits) != enough(kind) {
		t.Fatalf("Digits of %#x, kind %d: %s reads %#x, %d", uint64(a), kind, text, uint64(out), err)
	}
	if _, short, _, err := Shortest(kind, a); len(short) > len(digits) || err != api.OK {
		t.Fatalf("Shortest of %#x, kind %d: %s, %d", uint64(a), kind, short, err)
	}
}

func TestReadBack(t *testing.T) {
	for a := range 1 << 16 {
		checkBack(t, 2, a)
	}
	for _, kind := range kinds {
		none := []uint64{0, infBits(kind), infBits(kind) + 1, uint64(quietBits(kind)), signBit(kind) - 1}
		for _, size := range append(samples(kind, 4000), none...) {
			for _, a := range signs(kind, size) {
				checkBack(t, kind, a)
			}
		}
	}
}

// A float of kind 2 has at most 24 digits behind the point; so Fixed with 40 writes it exactly, and each mode reads it without flags.
func TestReadBackFixed(t *testing.T) {
	for a := range 1 << 16 {
		if sizeOf(2, a) > infBits(2) {
			continue
		}
		for mode := range 4 {
			text, err := Fixed(2, mode, a, 40)
			if out, flags, e := Read(text, 2, mode); out != a || flags != 0 || err != api.OK || e != api.OK {
				t.Fatalf("Fixed of %#x, mode %d: %s, %d reads %#x, %d, %d", a, mode, text, err, out, flags, e)
			}
		}
	}
}
