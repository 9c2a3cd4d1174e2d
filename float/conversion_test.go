package float

import (
	"math"
	"math/big"
	"testing"

	"quadrat/api"
)

// checkFromInt holds an integer in each mode against the chapter.
func checkFromInt(t *testing.T, kind, n int) {
	t.Helper()
	for mode := range 4 {
		wantOut, wantFlags := 0, 0
		if n != 0 {
			wantOut, wantFlags = rounded(kind, mode, new(big.Rat).SetInt64(int64(n)))
		}
		out, flags, err := FromInt(kind, mode, n)
		told(t, "FromInt", kind, mode, n, 0, out, flags, err, wantOut, wantFlags)
	}
}

func TestFromInt(t *testing.T) {
	d := &dice{4}
	for _, kind := range kinds {
		for _, n := range []int{0, 1, -1, 2, 3, -7, math.MaxInt, math.MaxInt - 1, math.MinInt, math.MinInt + 1, 65504, 65519, 65520, -65519, -65520, 65536} {
			checkFromInt(t, kind, n)
		}
		for _, digits := range []int{11, 24, 53} {
			for k := -4; k <= 4; k++ {
				checkFromInt(t, kind, 1<<digits+k)
				checkFromInt(t, kind, -(1<<(digits+1) + k))
			}
		}
		for range 200 {
			checkFromInt(t, kind, int(d.next()>>(d.next()%64)))
		}
	}
	for _, r := range [][5]int{{2, 0, 2049, 0x6800, 16}, {2, 0, 2051, 0x6802, 16}, {2, 3, 2049, 0x6801, 16}, {2, 2, -2049, 0xE801, 16}, {4, 0, 1<<24 + 1, 0x4B800000, 16}, {8, 0, -1, -0x4010000000000000, 0}, {8, 0, math.MaxInt, 0x43E0000000000000, 16}, {8, 1, math.MaxInt, 0x43DFFFFFFFFFFFFF, 16}, {8, 0, math.MinInt, -0x3C20000000000000, 0}, {2, 1, math.MinInt, 0xFBFF, 20}, {2, 2, 0, 0, 0}} {
		out, flags, err := FromInt(r[0], r[1], r[2])
		told(t, "FromInt", r[0], r[1], r[2], 0, out, flags, err, r[3], r[4])
	}
}

// wholeOf rounds a value to a whole number.
func wholeOf(mode int, v *big.Rat) (n *big.Int, exact bool) {
	floor := new(big.Int)
	rest := new(big.Int)
	floor.DivMod(v.Num(), v.Denom(), rest) // the divisor is above 0: so this is the floor
	if rest.Sign() == 0 {
		return floor, true
	}
	twice := rest.Lsh(rest, 1).Cmp(v.Denom())
	up := false
	switch mode {
	case 0:
		up = twice > 0 || twice == 0 && floor.Bit(0) == 1
	case 1:
		up = v.Sign() < 0
	case 3:
		up = true
	}
	if up {
		floor.Add(floor, big.NewInt(1))
	}
	return floor, false
}

// checkToInt holds a float in each mode against the chapter.
func checkToInt(t *testing.T, kind, a int) {
	t.Helper()
	for mode := range 4 {
		n, flags, err := ToInt(kind, mode, a)
		wantErr, wantN, wantFlags := api.ErrRange, 0, 0
		if isFinite(kind, a) {
			if whole, exact := wholeOf(mode, exactValue(kind, a)); whole.IsInt64() {
				wantErr, wantN = api.OK, int(whole.Int64())
				if !exact {
					wantFlags = 16
				}
			}
		}
		if n != wantN || flags != wantFlags || err != wantErr {
			t.Fatalf("ToInt of kind %d, mode %d, of %#x: %d, %d, %d instead of %d, %d, %d", kind, mode, uint64(a), n, flags, err, wantN, wantFlags, wantErr)
		}
	}
}

func TestToInt(t *testing.T) {
	d := &dice{5}
	for a := range 1 << 16 {
		checkToInt(t, 2, a)
	}
	for _, kind := range []int{4, 8} {
		for _, a := range edges(kind) {
			checkToInt(t, kind, a)
		}
		for e := -3; e <= 66; e++ {
			for _, f := range []uint64{0, 1, 2, 3, leastNormal(kind) / 2, leastNormal(kind)/2 + 1, leastNormal(kind) - 1} {
				size := powerBits(kind, e) + f
				checkToInt(t, kind, int(size))
				checkToInt(t, kind, int(size|signBit(kind)))
				checkToInt(t, kind, int(powerBits(kind, e)-1-f))
			}
			checkToInt(t, kind, int(powerBits(kind, e)+d.next()%leastNormal(kind)))
		}
	}
	for _, r := range [][5]int{{2, 0, 0x3800, 0, 16}, {2, 0, 0x3E00, 2, 16}, {2, 0, 0x4100, 2, 16}, {2, 0, 0x3801, 1, 16}, {2, 3, 1, 1, 16}, {2, 2, 1, 0, 16}, {2, 2, 1 + minus, -1, 16}, {2, 3, 1 + minus, 0, 16}, {2, 0, minus, 0, 0}, {2, 0, greatest2, 65504, 0}, {8, 0, -0x3C20000000000000, math.MinInt, 0}, {8, 0, 0x43DFFFFFFFFFFFFF, math.MaxInt - 1023, 0}} {
		n, flags, err := ToInt(r[0], r[1], r[2])
		told(t, "ToInt", r[0], r[1], r[2], 0, n, flags, err, r[3], r[4])
	}
	for _, r := range [][2]int{{8, 0x43E0000000000000}, {8, -0x3C20000000000000 + 1}, {4, 0x5F000000}, {4, 0xDF000001}, {2, inf2}, {2, inf2 + minus}, {4, 0x7FC00000}, {8, -1}} {
		if n, flags, err := ToInt(r[0], 1, r[1]); n != 0 || flags != 0 || err != api.ErrRange {
			t.Errorf("ToInt of %#x: %d, %d, %d", r[1], n, flags, err)
		}
	}
}

// checkConvert holds a conversion in each mode against the chapter.
func checkConvert(t *testing.T, from, to, a int) {
	t.Helper()
	for mode := range 4 {
		sign := 0
		if isNegative(from, a) {
			sign = int(signBit(to))
		}
		wantOut, wantFlags := quietBits(to), 0
		switch {
		case isNone(from, a):
		case isZero(from, a):
			wantOut = sign
		case !isFinite(from, a):
			wantOut = sign | int(infBits(to))
		default:
			wantOut, wantFlags = rounded(to, mode, exactValue(from, a))
		}
		out, flags, err := Convert(from, to, mode, a)
		told(t, "Convert", from, mode, a, to, out, flags, err, wantOut, wantFlags)
	}
}

func TestConvert(t *testing.T) {
	d := &dice{6}
	for _, from := range kinds {
		for _, to := range kinds {
			for _, a := range edges(from) {
				checkConvert(t, from, to, a)
			}
			for range 50 {
				checkConvert(t, from, to, d.float(from))
			}
			for e := -30; e <= 16; e++ { // about the ends of kind 2, and halves between its floats
				if from == 2 && (e < -14 || e > 15) {
					continue
				}
				checkConvert(t, from, to, int(powerBits(from, e)))
				checkConvert(t, from, to, int(powerBits(from, e)-1))
				checkConvert(t, from, to, int(powerBits(from, e)+d.next()%leastNormal(from)))
				checkConvert(t, from, to, int(powerBits(from, e)+1|signBit(from)))
			}
		}
	}
	for _, r := range [][6]int{{4, 2, 0, 0x3F801000, one2, 16}, {4, 2, 0, 0x3F803000, one2 + 2, 16}, {4, 2, 0, 0x3F801001, one2 + 1, 16}, {4, 2, 0, 0x477FEFFF, greatest2, 16}, {4, 2, 0, 0x477FF000, inf2, 20}, {4, 2, 1, 0x477FF000, greatest2, 16}, {4, 2, 1, 0x47800000, greatest2, 20}, {4, 2, 0, 0x387FF000, 0x0400, 24}, {4, 2, 0, 0x387FE000, 0x0400, 24}, {4, 2, 0, 0x387FC000, 0x03FF, 0}, {4, 2, 0, 0x33000000, 0, 24}, {4, 2, 0, 0x33000001, 1, 24}, {8, 4, 3, 1, 1, 24}, {8, 4, 0, -1, 0x7FC00000, 0}, {4, 8, 0, 0xFF800000, -0x10000000000000, 0}, {2, 8, 0, minus, math.MinInt, 0}, {2, 2, 0, 0xFE01, quiet2, 0}} {
		out, flags, err := Convert(r[0], r[1], r[2], r[3])
		told(t, "Convert", r[0], r[2], r[3], r[1], out, flags, err, r[4], r[5])
	}
}
