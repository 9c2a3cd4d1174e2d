package decimal

import (
	"math/big"
	"math/rand"
	"strconv"
	"strings"
	"testing"

	"quadrat/api"
)

func TestReadByHand(t *testing.T) {
	for _, r := range []struct {
		text        string
		kind, mode  int
		want, flags int
	}{
		{"1", 2, 0, 0x3C00, 0}, {"+1", 2, 0, 0x3C00, 0}, {"-1", 2, 0, 0xBC00, 0}, {"1.", 2, 0, 0x3C00, 0}, {".5", 2, 0, 0x3800, 0}, {"1.5", 4, 0, 0x3FC00000, 0},
		{"15e-1", 4, 0, 0x3FC00000, 0}, {".15E+1", 4, 0, 0x3FC00000, 0}, {"0.0015d3", 4, 0, 0x3FC00000, 0}, {"150.D-002", 4, 0, 0x3FC00000, 0}, {"1e0000", 4, 0, 0x3F800000, 0},
		{"0", 8, 0, 0, 0}, {"-0", 8, 0, -1 << 63, 0}, {"-0.00e-9999", 8, 2, -1 << 63, 0}, {"-.0", 4, 3, 0x80000000, 0}, {"+0", 2, 2, 0, 0}, {"0e9999", 2, 0, 0, 0},
		{"inf", 4, 1, 0x7F800000, 0}, {"+inf", 8, 2, 0x7FF0000000000000, 0}, {"-inf", 4, 3, 0xFF800000, 0}, {"-inf", 8, 0, -1 << 52, 0}, {"-inf", 2, 1, 0xFC00, 0},
		{"nan", 2, 0, 0x7E00, 0}, {"+nan", 4, 1, 0x7FC00000, 0}, {"-nan", 8, 2, 0x7FF8000000000000, 0},
		{"0.1", 2, 0, 0x2E66, 16}, {"0.1", 2, 3, 0x2E67, 16}, {"0.1", 4, 0, 0x3DCCCCCD, 16}, {"0.1", 4, 2, 0x3DCCCCCC, 16}, {"-0.1", 4, 2, 0xBDCCCCCD, 16}, {"-0.1", 4, 3, 0xBDCCCCCC, 16},
		{"65504", 2, 0, 0x7BFF, 0}, {"65519", 2, 0, 0x7BFF, 16}, {"65520", 2, 0, 0x7C00, 20}, {"65520", 2, 1, 0x7BFF, 16}, {"65536", 2, 1, 0x7BFF, 20}, {"65505", 2, 3, 0x7C00, 20}, {"-65505", 2, 2, 0xFC00, 20}, {"-65505", 2, 3, 0xFBFF, 16},
		{"1e9999", 8, 0, 0x7FF0000000000000, 20}, {"1e9999", 8, 1, 0x7FEFFFFFFFFFFFFF, 20}, {"1e9999", 8, 2, 0x7FEFFFFFFFFFFFFF, 20}, {"-1e9999", 4, 2, 0xFF800000, 20}, {"-1e9999", 4, 3, 0xFF7FFFFF, 20},
		{"1e-9999", 8, 0, 0, 24}, {"1e-9999", 4, 3, 1, 24}, {"-1e-9999", 4, 3, 0x80000000, 24}, {"-1e-9999", 4, 2, 0x80000001, 24}, {"-1e-9999", 4, 0, 0x80000000, 24},
		{"1.7976931348623157e308", 8, 0, 0x7FEFFFFFFFFFFFFF, 16}, {"1.7976931348623159e308", 8, 0, 0x7FF0000000000000, 20}, {"2.2250738585072014e-308", 8, 0, 0x0010000000000000, 16},
		{"2.2250738585072011e-308", 8, 0, 0x000FFFFFFFFFFFFF, 24}, {"5.9604644775390625e-8", 2, 0, 1, 0}, {"2.98023223876953125e-8", 2, 0, 0, 24}, {"2.98023223876953126e-8", 2, 0, 1, 24},
		{"8.94069671630859375e-8", 2, 0, 2, 24}, {"8.94069671630859374e-8", 2, 0, 1, 24},
	} {
		if out, flags, err := Read(r.text, r.kind, r.mode); out != r.want || flags != r.flags || err != api.OK {
			t.Errorf("Read of %s, kind %d, mode %d: %#x, %d, %d instead of %#x, %d", r.text, r.kind, r.mode, uint64(out), flags, err, uint64(r.want), r.flags)
		}
	}
}

// anyNumeral gives up to 60 digits, sometimes with zeros around, and a value that is near one of the kinds' ranges.
func anyNumeral(r *rand.Rand) numeral {
	digits := make([]byte, 1+r.Intn(60))
	for i := range digits {
		digits[i] = byte('0' + r.Intn(10))
	}
	text := string(digits)
	if r.Intn(4) == 0 {
		at := r.Intn(len(text))
		text = strings.Repeat("0", at) + text[at:]
	}
	if r.Intn(4) == 0 {
		at := r.Intn(len(text))
		text = text[:at] + strings.Repeat("0", len(text)-at)
	}
	point := r.Intn(len(text) + 1)
	farthest := []int{12, 50, 345}[r.Intn(3)]
	return numeral{r.Intn(2) == 1, text, point, r.Intn(2*farthest+1) - farthest - point}
}

func TestReadAny(t *testing.T) {
	r := rand.New(rand.NewSource(21))
	for i := range 3000 {
		checkRead(t, anyNumeral(r), []string{"e", "E", "d", "D"}[i%4])
	}
	for range 500 {
		n := anyNumeral(r)
		n.power = 0
		checkRead(t, n, "")
	}
}

func TestReadFarAway(t *testing.T) {
	sixty := "1" + strings.Repeat("0", 58) + "1"
	for _, digits := range []string{"1", "9", "49", "000000000000001", sixty, strings.Repeat("9", 60), strings.Repeat("0", 59) + "7", strings.Repeat("0", 60)} {
		for _, power := range []int{9999, 5000, 460, 401, 400, 399, 341, -340, -399, -400, -401, -460, -5000, -9999} {
			for _, point := range []int{0, len(digits)} {
				checkRead(t, numeral{false, digits, point, power}, "e")
				checkRead(t, numeral{true, digits, point, power}, "D")
			}
		}
	}
}

// halfway is the value in the middle of a float and the next one, as digits and an exponent.
func halfway(kind int, size uint64) (digits string, power int) {
	v := new(big.Rat).Add(valueOf(kind, size), valueOf(kind, size+1))
	v.Mul(v, big.NewRat(1, 2))
	for !v.IsInt() {
		v.Mul(v, big.NewRat(10, 1))
		power--
	}
	digits = v.Num().String()
	short := strings.TrimRight(digits, "0")
	return short, power + len(digits) - len(short)
}

// beside changes the last digit of some digits by 1, or puts a digit behind them.
func beside(digits string, up bool) string {
	n, _ := new(big.Int).SetString(digits+"0", 10)
	if up {
		return n.Add(n, big.NewInt(1)).String()
	}
	return n.Sub(n, big.NewInt(1)).String()
}

func TestReadHalfway(t *testing.T) {
	seen := 0
	check := func(kind int, size uint64) {
		digits, power := halfway(kind, size)
		if len(digits) > 58 {
			return
		}
		seen++
		for _, negative := range []bool{false, true} {
			checkRead(t, numeral{negative, digits, 0, power + len(digits)}, "e")
			for _, up := range []bool{false, true} {
				near := beside(digits, up)
				checkRead(t, numeral{negative, near, len(near), power - 1}, "e")
			}
		}
	}
	for size := uint64(0); size < infBits(2); size += 61 {
		check(2, size)
	}
	for _, kind := range kinds {
		check(kind, 0)
		for _, size := range samples(kind, 150) {
			check(kind, size)
		}
	}
	if seen < 500 {
		t.Errorf("%d texts lie halfway", seen)
	}
}

// Whole numbers of several words: what decides lies far below the highest bits.
func TestReadWhole(t *testing.T) {
	for high := uint(54); high < 199; high += 3 {
		for _, low := range []uint{high - 11, high - 24, high - 53, high - 54, 0} {
			for by := int64(-1); by <= 1; by++ {
				n := new(big.Int).Lsh(big.NewInt(1), high)
				n.Add(n, new(big.Int).Lsh(big.NewInt(1), low))
				digits := n.Add(n, big.NewInt(by)).String()
				checkRead(t, numeral{by == 0, digits, len(digits), 0}, "")
			}
		}
	}
}

// All kinds have floats of few digits, which are read without flags.
func TestReadExact(t *testing.T) {
	for n := -2048; n <= 2048; n++ {
		text := strconv.FormatFloat(float64(n)/16, 'f', -1, 64)
		for _, kind := range kinds {
			at, _, _ := Read(text, kind, 0)
			for mode := range 4 {
				out, flags, err := Read(text, kind, mode)
				if out != at || flags != 0 || err != api.OK {
					t.Fatalf("Read of %s, kind %d, mode %d: %#x, %d, %d", text, kind, mode, out, flags, err)
				}
			}
		}
	}
}

func texts() []string {
	return []string{"0", "1.", ".1", "1.1", "+1", "-1", "+.1", "1e1", "1E1", "1d1", "1D1", "1e+1", "1e-1", "1.e1", ".1e-0001", "1e9999", "-00.00d+0000", "inf", "+inf", "-inf", "nan", "+nan", "-nan",
		strings.Repeat("0", 60), strings.Repeat("9", 59) + ".9e-9999", "-." + strings.Repeat("1", 60), strings.Repeat("1", 30) + "." + strings.Repeat("1", 30)}
}

func noTexts() []string {
	return []string{"", " ", "+", "-", ".", "+.", "e1", ".e1", "-e1", "1e", "1e+", "1e-", "1e00001", "1e12345", "1e+12345", "1 ", " 1", "1 e1", "1e 1", "1e1 ", "1..1", "1.1.1", "..1", "1.1e1.1", "1e1e1", "1f1", "1q1", "1ee1", "1e--1", "1e+-1", "--1", "++1", "+-1",
		"1+1", "1-", "1_0", "1,5", "0x1", "0b1", "INF", "Inf", "NaN", "NAN", "infinity", "in", "na", "inf ", " nan", "inf1", "1inf", ".inf", "nan(1)", "--inf", "+-nan", "infe1", "i", "n", "a", "١", "1\x00", "\x001", "1\n", "1é", "\xff", "é1",
		strings.Repeat("0", 61), strings.Repeat("1", 61), strings.Repeat("1", 60) + ".0", "." + strings.Repeat("0", 61), strings.Repeat("0", 31) + "." + strings.Repeat("1", 30) + "e1", strings.Repeat("7", 5000)}
}

func TestIs(t *testing.T) {
	for _, text := range texts() {
		for _, kind := range kinds {
			if _, _, err := Read(text, kind, 0); !Is(text) || err != api.OK {
				t.Errorf("%q: %v, %d", text, Is(text), err)
			}
		}
	}
	for _, text := range noTexts() {
		for mode := range 4 {
			out, flags, err := Read(text, 8, mode)
			if Is(text) || out != 0 || flags != 0 || err != api.ErrForm {
				t.Errorf("%q: %v, %d, %d, %d", text, Is(text), out, flags, err)
			}
		}
	}
}

// Each byte is put at each place of a text: only what the chapter names is one.
func TestIsByteByByte(t *testing.T) {
	for b := range 256 {
		one := string([]byte{byte(b)})
		digit, sign, letter := strings.Contains("0123456789", one), strings.Contains("+-", one), strings.Contains("eEdD", one)
		for text, want := range map[string]bool{one: digit, one + "1": digit || sign || one == ".", "1" + one: digit || one == ".", "1" + one + "1": digit || letter || one == ".", "1e" + one + "1": digit || sign, "1e1" + one: digit, one + "inf": sign, "nan" + one: false} {
			if Is(text) != want {
				t.Errorf("Is of %q: %v", text, !want)
			}
		}
	}
}
