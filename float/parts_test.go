package float

import (
	"math"
	"math/big"
	"testing"

	"quadrat/api"
)

func TestNegAndAbs(t *testing.T) {
	for _, kind := range kinds {
		for _, a := range edges(kind) {
			neg, abs := int(uint64(a)^signBit(kind)), int(uint64(a)&^signBit(kind))
			if isNone(kind, a) {
				neg, abs = quietBits(kind), quietBits(kind)
			}
			if got, err := Neg(kind, a); got != neg || err != api.OK {
				t.Errorf("Neg of %#x of kind %d: %#x, %d", uint64(a), kind, uint64(got), err)
			}
			if got, err := Abs(kind, a); got != abs || err != api.OK {
				t.Errorf("Abs of %#x of kind %d: %#x, %d", uint64(a), kind, uint64(got), err)
			}
		}
	}
	if n, err := Neg(8, 0); n != math.MinInt || err != api.OK {
		t.Errorf("Neg of 0 of kind 8: %#x, %d", n, err)
	}
}

func TestClass(t *testing.T) {
	for _, kind := range kinds {
		end := infBits(kind)
		for name, sizes := range map[string][]uint64{
			"zero":     {0},
			"least":    {1, 2, leastNormal(kind) / 2, leastNormal(kind) - 1},
			"normal":   {leastNormal(kind), leastNormal(kind) + 1, powerBits(kind, 0), end - 1},
			"infinite": {end},
			"none":     {end + 1, uint64(quietBits(kind)), signBit(kind) - 1},
		} {
			for _, size := range sizes {
				for _, a := range []int{int(size), int(size | signBit(kind))} {
					if got := Class(kind, a); got != name {
						t.Errorf("Class of %#x of kind %d: %q", uint64(a), kind, got)
					}
				}
			}
		}
		for _, a := range noBits(kind) {
			if got := Class(kind, a); got != "" {
				t.Errorf("Class of %#x of kind %d: %q", a, kind, got)
			}
		}
	}
	for _, kind := range noKinds() {
		if got := Class(kind, 0); got != "" {
			t.Errorf("Class of kind %d: %q", kind, got)
		}
	}
}

// checkParts holds the parts against the float's value.
func checkParts(t *testing.T, kind, a int) {
	t.Helper()
	sign, m, e, err := Parts(kind, a)
	if !isFinite(kind, a) {
		if sign != 0 || m != 0 || e != 0 || err != api.ErrRange {
			t.Fatalf("Parts of %#x of kind %d: %d, %d, %d, %d", uint64(a), kind, sign, m, e, err)
		}
		return
	}
	v := new(big.Rat).Mul(new(big.Rat).SetInt64(int64(m)), twoTo(e))
	right := v.Cmp(valueOf(kind, uint64(a)&(signBit(kind)-1))) == 0 && (sign == 1) == isNegative(kind, a) && sign>>1 == 0
	if isZero(kind, a) {
		right = right && m == 0 && e == 0
	} else {
		right = right && m > 0 && m%2 == 1
	}
	if !right || err != api.OK {
		t.Fatalf("Parts of %#x of kind %d: %d, %d, %d, %d", uint64(a), kind, sign, m, e, err)
	}
}

func TestParts(t *testing.T) {
	d := &dice{7}
	for a := range 1 << 16 {
		checkParts(t, 2, a)
	}
	for _, kind := range []int{4, 8} {
		for _, a := range edges(kind) {
			checkParts(t, kind, a)
		}
		for range 200 {
			checkParts(t, kind, d.float(kind))
		}
	}
	for a, want := range map[int][3]int{0x3FF0000000000000: {0, 1, 0}, -0x4008000000000000: {1, 3, -1}, 1: {0, 1, -1074}, 0x7FEFFFFFFFFFFFFF: {0, 1<<53 - 1, 971}, math.MinInt: {1, 0, 0}} {
		if sign, m, e, err := Parts(8, a); [3]int{sign, m, e} != want || err != api.OK {
			t.Errorf("Parts of %#x: %d, %d, %d, %d", a, sign, m, e, err)
		}
	}
}

// checkMake holds a float that is made in each mode against the chapter.
func checkMake(t *testing.T, kind, sign, m, e int) {
	t.Helper()
	for mode := range 4 {
		wantOut, wantFlags := 0, 0
		if m == 0 {
			wantOut = int(uint64(sign) * signBit(kind))
		} else {
			v := new(big.Rat).Mul(new(big.Rat).SetInt64(int64(m)), twoTo(e))
			if sign == 1 {
				v.Neg(v)
			}
			wantOut, wantFlags = rounded(kind, mode, v)
		}
		out, flags, err := Make(kind, mode, sign, m, e)
		told(t, "Make", kind, mode, m, e, out, flags, err, wantOut, wantFlags)
	}
}

func TestMake(t *testing.T) {
	d := &dice{8}
	for _, kind := range kinds {
		p, w := digitsOf(kind)
		bias := 1<<(w-1) - 1
		for _, e := range []int{-2000, -1999, 2000, 0, 1, -1, 2 - bias - int(p), 1 - bias - int(p), -bias - int(p), 1 - bias, -bias, bias, bias + 1, bias - int(p), bias - int(p) + 1, bias - 63, bias - 62} {
			for _, m := range []int{0, 1, 2, 3, 5, 1<<p - 1, 1 << p, 1<<p + 1, 1<<(p+1) - 1, 1<<(p+1) + 1, 1<<(p+1) + 2, 1<<(p+1) + 3, 1 << 62, math.MaxInt} {
				checkMake(t, kind, 0, m, e)
				checkMake(t, kind, 1, m, e)
			}
		}
		for range 200 {
			checkMake(t, kind, int(d.next()%2), int(d.next()>>(1+d.next()%63)), int(d.next()%(2*uint64(bias)+200))-bias-100)
		}
	}
	for _, r := range [][7]int{{8, 0, 0, 3, -1, 0x3FF8000000000000, 0}, {8, 0, 1, 1, 0, -0x4010000000000000, 0}, {8, 0, 0, 1, 1024, 0x7FF0000000000000, 20}, {8, 2, 0, 1, 2000, 0x7FEFFFFFFFFFFFFF, 20}, {8, 0, 0, 1, -1075, 0, 24}, {8, 0, 0, 3, -1076, 1, 24}, {8, 2, 1, 1, -2000, -math.MaxInt, 24}, {2, 0, 1, 0, 2000, minus, 0}, {4, 2, 0, 0, -2000, 0, 0}} {
		out, flags, err := Make(r[0], r[1], r[2], r[3], r[4])
		told(t, "Make", r[0], r[1], r[3], r[4], out, flags, err, r[5], r[6])
	}
}

// inOrder are all floats of kind 2 that are numbers, from the least to the greatest, -0 left out.
func inOrder() []int {
	var l []int
	for size := inf2; size > 0; size-- {
		l = append(l, size+minus)
	}
	for size := 0; size <= inf2; size++ {
		l = append(l, size)
	}
	return l
}

func TestNext(t *testing.T) {
	check := func(kind, a int, up bool, want int) {
		t.Helper()
		if got, err := Next(kind, a, up); got != want || err != api.OK {
			t.Errorf("Next of %#x of kind %d, up %v: %#x, %d", uint64(a), kind, up, uint64(got), err)
		}
	}
	l := inOrder()
	for i, a := range l {
		lesser, greater := l[max(i-1, 0)], l[min(i+1, len(l)-1)]
		if a == minus+1 {
			greater = minus // a zero keeps the side from which it is reached
		}
		check(2, a, false, lesser)
		check(2, a, true, greater)
	}
	for _, kind := range kinds {
		sign, end := int(signBit(kind)), int(infBits(kind))
		for _, zero := range []int{0, sign} {
			check(kind, zero, true, 1)
			check(kind, zero, false, sign|1)
		}
		check(kind, 1, false, 0)
		check(kind, sign|1, true, sign)
		check(kind, end-1, true, end)
		check(kind, sign|(end-1), false, sign|end)
		check(kind, end, true, end)
		check(kind, sign|end, false, sign|end)
		check(kind, end, false, end-1)
		check(kind, sign|end, true, sign|(end-1))
		check(kind, int(leastNormal(kind)), false, int(leastNormal(kind))-1)
		for _, none := range []int{quietBits(kind), end + 1, sign | (end + 5), sign - 1} {
			check(kind, none, true, quietBits(kind))
			check(kind, none, false, quietBits(kind))
		}
	}
}
