package float

import (
	"math"
	"testing"

	"quadrat/api"
)

// samples are the edges of a kind, and many other floats of it.
func samples(kind int) []int {
	l := edges(kind)
	d := &dice{9}
	for range 400 {
		l = append(l, d.float(kind))
	}
	return l
}

func TestMakeOfParts(t *testing.T) {
	for _, kind := range kinds {
		for _, a := range samples(kind) {
			sign, m, e, err := Parts(kind, a)
			if err != api.OK {
				continue
			}
			for mode := range 4 {
				out, flags, err := Make(kind, mode, sign, m, e)
				told(t, "Make of Parts", kind, mode, a, 0, out, flags, err, a, 0)
			}
		}
	}
}

func TestOperandsExchanged(t *testing.T) {
	for _, kind := range kinds {
		l := samples(kind)
		for i, a := range l {
			b := l[(i*31+17)%len(l)]
			for mode := range 4 {
				out, flags, _ := Add(kind, mode, a, b)
				other, also, err := Add(kind, mode, b, a)
				told(t, "Add", kind, mode, b, a, other, also, err, out, flags)
				out, flags, _ = Mul(kind, mode, a, b)
				other, also, err = Mul(kind, mode, b, a)
				told(t, "Mul", kind, mode, b, a, other, also, err, out, flags)
			}
		}
	}
}

func TestThereAndBack(t *testing.T) {
	check := func(kind, a int) {
		t.Helper()
		want := a
		if isNone(kind, a) {
			want = quietBits(kind)
		}
		for _, to := range kinds {
			if to < kind {
				continue
			}
			for mode := range 4 {
				there, flags, err := Convert(kind, to, mode, a)
				if flags != 0 || err != api.OK {
					t.Fatalf("Convert of %#x from %d to %d: %d, %d", uint64(a), kind, to, flags, err)
				}
				back, flags, err := Convert(to, kind, mode, there)
				told(t, "back", kind, mode, a, to, back, flags, err, want, 0)
			}
		}
	}
	for a := range 1 << 16 {
		check(2, a)
	}
	for _, kind := range kinds {
		for _, a := range samples(kind) {
			check(kind, a)
		}
	}
}

// checkBetween compares the results of modes 2 and 3. Where both are the same, also infinite ones, nothing was rounded.
func checkBetween(t *testing.T, name string, kind, a, b int, do func(mode int) (int, int)) {
	t.Helper()
	low, flags := do(2)
	high, also := do(3)
	if isNone(kind, low) || isNone(kind, high) {
		return
	}
	if n, err := Compare(kind, low, high); n > 0 || err != api.OK {
		t.Fatalf("%s of kind %d of %#x, %#x: %#x above %#x", name, kind, uint64(a), uint64(b), uint64(low), uint64(high))
	}
	same, one := low == high, int(uint64(low)^uint64(high)) == int(signBit(kind)) && isZero(kind, low)
	if (same || one) == ((flags|also)&16 != 0) {
		t.Fatalf("%s of kind %d of %#x, %#x: %#x, %d and %#x, %d", name, kind, uint64(a), uint64(b), uint64(low), flags, uint64(high), also)
	}
}

func TestDownIsAtMostUp(t *testing.T) {
	for _, kind := range kinds {
		l := samples(kind)
		for i, a := range l {
			b := l[(i*29+5)%len(l)]
			for _, o := range operators() {
				checkBetween(t, o.name, kind, a, b, func(mode int) (int, int) {
					out, flags, _ := o.do(kind, mode, a, b)
					return out, flags
				})
			}
			checkBetween(t, "Sqrt", kind, a, 0, func(mode int) (int, int) {
				out, flags, _ := Sqrt(kind, mode, a)
				return out, flags
			})
			checkBetween(t, "FromInt", kind, a, 0, func(mode int) (int, int) {
				out, flags, _ := FromInt(kind, mode, a)
				return out, flags
			})
			checkBetween(t, "Make", kind, a, -70, func(mode int) (int, int) {
				out, flags, _ := Make(kind, mode, i%2, a&math.MaxInt, -70)
				return out, flags
			})
			checkBetween(t, "Convert", kind, a, 8, func(mode int) (int, int) {
				out, flags, _ := Convert(8, kind, mode, a)
				return out, flags
			})
		}
	}
}

func TestNextThereAndBack(t *testing.T) {
	for _, kind := range kinds {
		for _, a := range samples(kind) {
			if isZero(kind, a) || !isFinite(kind, a) {
				continue
			}
			for _, up := range []bool{false, true} {
				there, _ := Next(kind, a, up)
				back, err := Next(kind, there, !up)
				told(t, "Next of Next", kind, 0, a, there, back, 0, err, a, 0)
			}
		}
	}
}
