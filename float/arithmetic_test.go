package float

import (
	"math"
	"math/big"
	"testing"

	"quadrat/api"
)

// Floats of kind 2.
const (
	one2      = 0x3C00
	two2      = 0x4000
	greatest2 = 0x7BFF
	inf2      = 0x7C00
	quiet2    = 0x7E00
	minus     = 0x8000
)

type operator struct {
	name  string
	do    func(kind, mode, a, b int) (int, int, api.Errno)
	exact func(x, y *big.Rat) *big.Rat
}

func operators() []operator {
	return []operator{
		{"Add", Add, func(x, y *big.Rat) *big.Rat { return new(big.Rat).Add(x, y) }},
		{"Sub", Sub, func(x, y *big.Rat) *big.Rat { return new(big.Rat).Sub(x, y) }},
		{"Mul", Mul, func(x, y *big.Rat) *big.Rat { return new(big.Rat).Mul(x, y) }},
		{"Div", Div, func(x, y *big.Rat) *big.Rat { return new(big.Rat).Quo(x, y) }},
	}
}

// special tells what the chapter says of infinite ones, of zeros, and of no numbers; is false, where the exact result is to be rounded.
func special(name string, kind, mode, a, b int) (out, flags int, is bool) {
	if isNone(kind, a) || isNone(kind, b) {
		return quietBits(kind), 0, true
	}
	if name == "Sub" {
		b = int(uint64(b)^signBit(kind)) & int(2*signBit(kind)-1)
	}
	end, sign := int(infBits(kind)), func(negative bool) int {
		if negative {
			return int(signBit(kind))
		}
		return 0
	}
	crossed := sign(isNegative(kind, a) != isNegative(kind, b))
	infA, infB := !isFinite(kind, a), !isFinite(kind, b)
	zeroA, zeroB := isZero(kind, a), isZero(kind, b)
	switch name {
	case "Add", "Sub":
		switch {
		case infA && infB && crossed != 0:
			return quietBits(kind), 1, true
		case infA:
			return a, 0, true
		case infB:
			return b, 0, true
		case zeroA && zeroB && crossed == 0:
			return a, 0, true
		case new(big.Rat).Add(exactValue(kind, a), exactValue(kind, b)).Sign() == 0:
			return sign(mode == 2), 0, true
		}
	case "Mul":
		switch {
		case infA && zeroB, zeroA && infB:
			return quietBits(kind), 1, true
		case infA, infB:
			return end | crossed, 0, true
		case zeroA, zeroB:
			return crossed, 0, true
		}
	case "Div":
		switch {
		case infA && infB, zeroA && zeroB:
			return quietBits(kind), 1, true
		case infA:
			return end | crossed, 0, true
		case zeroA, infB:
			return crossed, 0, true
		case zeroB:
			return end | crossed, 2, true
		}
	}
	return 0, 0, false
}

// checkTwo holds one operation in each mode against the chapter.
func checkTwo(t *testing.T, o operator, kind, a, b int) {
	t.Helper()
	for mode := range 4 {
		wantOut, wantFlags, is := special(o.name, kind, mode, a, b)
		if !is {
			wantOut, wantFlags = rounded(kind, mode, o.exact(exactValue(kind, a), exactValue(kind, b)))
		}
		out, flags, err := o.do(kind, mode, a, b)
		told(t, o.name, kind, mode, a, b, out, flags, err, wantOut, wantFlags)
	}
}

func TestOperationsOfEdges(t *testing.T) {
	for _, o := range operators() {
		for _, a := range edges(2) {
			for _, b := range edges(2) {
				checkTwo(t, o, 2, a, b)
			}
		}
	}
	for _, kind := range []int{4, 8} {
		l := edges(kind)
		for _, o := range operators() {
			for i, a := range l {
				checkTwo(t, o, kind, a, l[(i*7+3)%len(l)])
				checkTwo(t, o, kind, a, l[(i*5+11)%len(l)])
			}
		}
	}
}

func TestOperationsOfMany(t *testing.T) {
	d := &dice{1}
	for _, r := range []struct{ kind, many int }{{2, 3000}, {4, 300}, {8, 100}} {
		for _, o := range operators() {
			for range r.many {
				a := d.float(r.kind)
				checkTwo(t, o, r.kind, a, d.float(r.kind))
				checkTwo(t, o, r.kind, a, d.near(r.kind, a))
			}
		}
	}
}

// TestOperationsOfMachine goes through many more floats in mode 0, where the machine of the tests rounds too.
func TestOperationsOfMachine(t *testing.T) {
	bits8 := func(x float64) int {
		if math.IsNaN(x) {
			return quietBits(8)
		}
		return int(math.Float64bits(x))
	}
	bits4 := func(x float32) int {
		if x != x {
			return quietBits(4)
		}
		return int(math.Float32bits(x))
	}
	d := &dice{2}
	for range 100000 {
		a, c := d.float(8), d.float(4)
		b, e := d.near(8, a), d.near(4, c)
		x, y := math.Float64frombits(uint64(a)), math.Float64frombits(uint64(b))
		z, u := math.Float32frombits(uint32(c)), math.Float32frombits(uint32(e))
		for i, want := range [][2]int{{bits8(x + y), bits4(z + u)}, {bits8(x - y), bits4(z - u)}, {bits8(x * y), bits4(z * u)}, {bits8(x / y), bits4(z / u)}} {
			o := operators()[i]
			if out, _, err := o.do(8, 0, a, b); out != want[0] || err != api.OK {
				t.Fatalf("%s of %#x, %#x: %#x", o.name, a, b, out)
			}
			if out, _, err := o.do(4, 0, c, e); out != want[1] || err != api.OK {
				t.Fatalf("%s of %#x, %#x: %#x", o.name, c, e, out)
			}
		}
		if out, _, err := Sqrt(8, 0, a); out != bits8(math.Sqrt(x)) || err != api.OK {
			t.Fatalf("Sqrt of %#x: %#x", a, out)
		}
	}
}

// TestOperationsByHand has results that were reckoned by hand, where the reference itself could be wrong.
func TestOperationsByHand(t *testing.T) {
	l := operators()
	add, sub, mul, div := l[0].do, l[1].do, l[2].do, l[3].do
	for _, r := range []struct {
		name              string
		do                func(kind, mode, a, b int) (int, int, api.Errno)
		kind, mode        int
		a, b, want, flags int
	}{
		{"1 + 1", add, 2, 0, one2, one2, two2, 0},
		{"1 + half a unit: the last bit is 0", add, 2, 0, one2, 0x1000, one2, 16},
		{"the next of 1 + half a unit", add, 2, 0, one2 + 1, 0x1000, one2 + 2, 16},
		{"-1 - half a unit, down", sub, 2, 2, one2 + minus, 0x1000, one2 + 1 + minus, 16},
		{"-1 - half a unit, up", sub, 2, 3, one2 + minus, 0x1000, one2 + minus, 16},
		{"1 - 1 towards 0", sub, 2, 1, one2, one2, 0, 0},
		{"1 - 1 down", sub, 2, 2, one2, one2, minus, 0},
		{"-0 + 0 down", add, 2, 2, minus, 0, minus, 0},
		{"0 + 0 down", add, 2, 2, 0, 0, 0, 0},
		{"-0 - 0 up", sub, 2, 3, minus, 0, minus, 0},
		{"-0 + 1", add, 2, 0, minus, one2, one2, 0},
		{"the sum of least ones is exact", add, 2, 0, 0x3FF, 1, 0x400, 0},
		{"just below what rounds to infinite", add, 2, 0, greatest2, 0x4BFF, greatest2, 16},
		{"what rounds to infinite", add, 2, 0, greatest2, 0x4C00, inf2, 20},
		{"greatest + least, up", add, 2, 3, greatest2, 1, inf2, 20},
		{"greatest + least, down", add, 2, 2, greatest2, 1, greatest2, 16},
		{"-greatest - least, up", sub, 2, 3, greatest2 + minus, 1, greatest2 + minus, 16},
		{"-greatest - least, down", sub, 2, 2, greatest2 + minus, 1, inf2 + minus, 20},
		{"greatest twice, up", add, 2, 3, greatest2, greatest2, inf2, 20},
		{"-greatest twice, up", mul, 2, 3, greatest2 + minus, two2, greatest2 + minus, 20},
		{"infinite + infinite", add, 2, 0, inf2, inf2, inf2, 0},
		{"-infinite + infinite", add, 2, 1, inf2 + minus, inf2, quiet2, 1},
		{"-infinite - infinite", sub, 2, 1, inf2 + minus, inf2, inf2 + minus, 0},
		{"rounds to the least normal one, from below", mul, 2, 0, 0x07FF, 0x3800, 0x0400, 24},
		{"the least one squared", mul, 2, 0, 1, 1, 0, 24},
		{"the least one squared, down", mul, 2, 2, 1, 1 + minus, 1 + minus, 24},
		{"a least one exactly", mul, 2, 0, 2, 0x3800, 1, 0},
		{"infinite * -1", mul, 2, 0, inf2, one2 + minus, inf2 + minus, 0},
		{"-0 * -1", mul, 2, 2, minus, one2 + minus, 0, 0},
		{"no number * 0", mul, 2, 0, 0xFFFF, 0, quiet2, 0},
		{"1 / -0", div, 2, 0, one2, minus, inf2 + minus, 2},
		{"0 / -0", div, 2, 0, 0, minus, quiet2, 1},
		{"infinite / infinite", div, 2, 0, inf2, inf2 + minus, quiet2, 1},
		{"no number / 0", div, 2, 0, quiet2 + 1, 0, quiet2, 0},
		{"0 / -infinite", div, 2, 0, 0, inf2 + minus, minus, 0},
		{"2 / 3 of kind 4", div, 4, 0, 0x40000000, 0x40400000, 0x3F2AAAAB, 16},
		{"2 / 3 of kind 4, towards 0", div, 4, 1, 0x40000000, 0x40400000, 0x3F2AAAAA, 16},
		{"1 / 3 of kind 8", div, 8, 0, 0x3FF0000000000000, 0x4008000000000000, 0x3FD5555555555555, 16},
		{"0.1 + 0.2", add, 8, 0, 0x3FB999999999999A, 0x3FC999999999999A, 0x3FD3333333333334, 16},
		{"0.1 + 0.2, down", add, 8, 2, 0x3FB999999999999A, 0x3FC999999999999A, 0x3FD3333333333333, 16},
		{"-1 * 1 of kind 8", mul, 8, 0, -0x4010000000000000, 0x3FF0000000000000, -0x4010000000000000, 0},
	} {
		if out, flags, err := r.do(r.kind, r.mode, r.a, r.b); out != r.want || flags != r.flags || err != api.OK {
			t.Errorf("%s: %#x, %d, %d", r.name, out, flags, err)
		}
	}
}

// checkRoot holds a root in each mode against the chapter.
func checkRoot(t *testing.T, kind, a int) {
	t.Helper()
	for mode := range 4 {
		wantOut, wantFlags := quietBits(kind), 0
		switch {
		case isNone(kind, a):
		case isZero(kind, a), !isFinite(kind, a) && !isNegative(kind, a):
			wantOut = a
		case isNegative(kind, a):
			wantFlags = 1
		default:
			wantOut, wantFlags = roundedRoot(kind, mode, exactValue(kind, a))
		}
		out, flags, err := Sqrt(kind, mode, a)
		told(t, "Sqrt", kind, mode, a, 0, out, flags, err, wantOut, wantFlags)
	}
}

func TestSqrt(t *testing.T) {
	for a := 0; a < 1<<16; a += 3 {
		checkRoot(t, 2, a)
	}
	d := &dice{3}
	for _, kind := range kinds {
		for _, a := range edges(kind) {
			checkRoot(t, kind, a)
		}
		for range 100 {
			checkRoot(t, kind, int(uint64(d.float(kind))&(signBit(kind)-1)))
		}
	}
	for _, r := range [][4]int{{2, 0, 0x4880, 0x4200}, {2, 0, 0x4200, 0x3EEE}, {4, 0, 0x40000000, 0x3FB504F3}, {8, 0, 0x4000000000000000, 0x3FF6A09E667F3BCD}, {8, 1, 0x4000000000000000, 0x3FF6A09E667F3BCC}, {8, 0, 0x4022000000000000, 0x4008000000000000}} {
		if out, _, err := Sqrt(r[0], r[1], r[2]); out != r[3] || err != api.OK {
			t.Errorf("Sqrt of %#x: %#x, %d", r[2], out, err)
		}
	}
}

func TestCompare(t *testing.T) {
	for _, kind := range kinds {
		for _, a := range edges(kind) {
			for _, b := range edges(kind) {
				want := 2
				if !isNone(kind, a) && !isNone(kind, b) { // the formula puts infinite ones behind all finite ones
					want = exactValue(kind, a).Cmp(exactValue(kind, b))
				}
				if got, err := Compare(kind, a, b); got != want || err != api.OK {
					t.Fatalf("Compare of kind %d of %#x, %#x: %d, %d", kind, uint64(a), uint64(b), got, err)
				}
			}
		}
	}
	for _, r := range [][3]int{{0, minus, 0}, {minus, 0, 0}, {one2, two2, -1}, {two2, one2, 1}, {one2 + minus, two2 + minus, 1}, {1 + minus, 1, -1}, {inf2, inf2, 0}, {inf2 + minus, greatest2 + minus, -1}, {inf2 + minus, inf2, -1}, {quiet2, quiet2, 2}, {inf2 + 1, 0, 2}, {0, 0xFFFF, 2}} {
		if got, err := Compare(2, r[0], r[1]); got != r[2] || err != api.OK {
			t.Errorf("Compare of %#x, %#x: %d, %d", r[0], r[1], got, err)
		}
	}
}
