package float

import (
	"math/big"
	"testing"

	"quadrat/api"
)

// The tests hold the package against the chapter's own words: a float's value by its formula, and rounding as a choice between the two neighbours of the exact value. Nothing of this is shared with the package.

var kinds = []int{2, 4, 8}

// digitsOf returns p and w of a kind.
func digitsOf(kind int) (p, w uint) {
	switch kind {
	case 2:
		return 11, 5
	case 4:
		return 24, 8
	}
	return 53, 11
}

func signBit(kind int) uint64 {
	return 1 << (8*uint(kind) - 1)
}

// infBits is the infinite one above 0.
func infBits(kind int) uint64 {
	p, w := digitsOf(kind)
	return (1<<w - 1) << (p - 1)
}

// leastNormal is the least normal one above 0.
func leastNormal(kind int) uint64 {
	p, _ := digitsOf(kind)
	return 1 << (p - 1)
}

func quietBits(kind int) int {
	return int(infBits(kind) | leastNormal(kind)>>1)
}

// powerBits is 2^e, where that is a normal float.
func powerBits(kind, e int) uint64 {
	p, w := digitsOf(kind)
	return uint64(e+1<<(w-1)-1) << (p - 1)
}

func twoTo(e int) *big.Rat {
	n := new(big.Int)
	if e >= 0 {
		return new(big.Rat).SetInt(n.Lsh(big.NewInt(1), uint(e)))
	}
	return new(big.Rat).SetFrac(big.NewInt(1), n.Lsh(big.NewInt(1), uint(-e)))
}

// valueOf is the chapter's formula. Of the infinite one it gives the number that would follow the greatest finite one.
func valueOf(kind int, size uint64) *big.Rat {
	p, w := digitsOf(kind)
	bias := 1<<(w-1) - 1
	e, f := int(size>>(p-1)), size&(1<<(p-1)-1)
	power := 2 - bias - int(p)
	if e > 0 {
		f, power = f+1<<(p-1), e-bias-int(p)+1
	}
	m := new(big.Rat).SetInt(new(big.Int).SetUint64(f))
	return m.Mul(m, twoTo(power))
}

// exactValue is a finite float's value with its sign.
func exactValue(kind, a int) *big.Rat {
	v := valueOf(kind, uint64(a)&(signBit(kind)-1))
	if uint64(a)&signBit(kind) != 0 {
		v.Neg(v)
	}
	return v
}

// choose rounds a value that is not 0, of which only is known how any number compares with its size.
func choose(kind, mode int, negative bool, against func(r *big.Rat) int) (out, flags int) {
	end := infBits(kind)
	low, high := uint64(0), end // low's value is at most the size, that of the one behind high is above it
	for low < high {
		middle := low + (high-low+1)/2
		if against(valueOf(kind, middle)) <= 0 {
			low = middle
		} else {
			high = middle - 1
		}
	}
	toInfinity := mode == 3 && !negative || mode == 2 && negative
	sign := uint64(0)
	if negative {
		sign = signBit(kind)
	}
	if low < end && against(valueOf(kind, low)) != 0 {
		flags = 16
		if against(valueOf(kind, leastNormal(kind))) > 0 {
			flags = 24
		}
		middle := new(big.Rat).Add(valueOf(kind, low), valueOf(kind, low+1))
		half := against(middle.Mul(middle, big.NewRat(1, 2)))
		if toInfinity || mode == 0 && (half < 0 || half == 0 && low%2 == 1) {
			low++
		}
	}
	if low == end {
		flags = 20
		if !toInfinity && mode != 0 {
			low--
		}
	}
	return int(sign | low), flags
}

// rounded is the rounded value, which is not 0.
func rounded(kind, mode int, v *big.Rat) (out, flags int) {
	size := new(big.Rat).Abs(v)
	return choose(kind, mode, v.Sign() < 0, func(r *big.Rat) int { return r.Cmp(size) })
}

// roundedRoot is the rounded root of a value above 0.
func roundedRoot(kind, mode int, v *big.Rat) (out, flags int) {
	return choose(kind, mode, false, func(r *big.Rat) int { return new(big.Rat).Mul(r, r).Cmp(v) })
}

func isNone(kind, a int) bool {
	return uint64(a)&(signBit(kind)-1) > infBits(kind)
}

func isFinite(kind, a int) bool {
	return uint64(a)&(signBit(kind)-1) < infBits(kind)
}

func isZero(kind, a int) bool {
	return uint64(a)&(signBit(kind)-1) == 0
}

func isNegative(kind, a int) bool {
	return uint64(a)&signBit(kind) != 0
}

// edges are the floats that the chapter names, of both signs, and no numbers of several bits.
func edges(kind int) []int {
	p, w := digitsOf(kind)
	bias := 1<<(w-1) - 1
	one, end := powerBits(kind, 0), infBits(kind)
	sizes := []uint64{0, 1, 2, 3, leastNormal(kind) / 2, leastNormal(kind) - 1, leastNormal(kind), leastNormal(kind) + 1, leastNormal(kind) * 2,
		one - 2, one - 1, one, one + 1, one + 2, one + 3, one + leastNormal(kind)/2, powerBits(kind, 1), powerBits(kind, 1) + leastNormal(kind)/2, powerBits(kind, -1),
		powerBits(kind, -int(p)-1), powerBits(kind, -int(p)), powerBits(kind, -int(p)) + 1, powerBits(kind, 1-int(p)), powerBits(kind, int(p)-1), powerBits(kind, int(p)) + 1,
		powerBits(kind, bias-int(p)-1), powerBits(kind, bias-int(p)), powerBits(kind, bias-int(p)) - 1, powerBits(kind, bias-int(p)+1), powerBits(kind, bias), end - 2, end - 1,
		end, end + 1, uint64(quietBits(kind)), uint64(quietBits(kind)) + 1, signBit(kind) - 1}
	var l []int
	for _, size := range sizes {
		l = append(l, int(size), int(size|signBit(kind)))
	}
	return l
}

// dice gives numbers that look thrown, and are the same in each run.
type dice struct{ state uint64 }

func (d *dice) next() uint64 {
	d.state += 0x9E3779B97F4A7C15
	x := d.state
	x = (x ^ x>>30) * 0xBF58476D1CE4E5B9
	x = (x ^ x>>27) * 0x94D049BB133111EB
	return x ^ x>>31
}

// float gives any bits of a kind.
func (d *dice) float(kind int) int {
	return int(d.next() >> (64 - 8*uint(kind)))
}

// near gives a float whose exponent is near another one's, so that digits of both meet.
func (d *dice) near(kind, a int) int {
	p, _ := digitsOf(kind)
	size := uint64(a) & (signBit(kind) - 1)
	size += (d.next() % (2*uint64(p) + 5)) << (p - 1)
	size = size - uint64(p)<<(p-1) + d.next()%8
	if d.next()%2 == 0 {
		size ^= d.next() & (leastNormal(kind) - 1)
	}
	return int(size & (2*signBit(kind) - 1))
}

// told compares what a function told with what it must tell.
func told(t *testing.T, name string, kind, mode, a, b int, out, flags int, err api.Errno, wantOut, wantFlags int) {
	t.Helper()
	if out != wantOut || flags != wantFlags || err != api.OK {
		t.Fatalf("%s of kind %d, mode %d, of %#x, %#x: %#x, %d, %d instead of %#x, %d", name, kind, mode, uint64(a), uint64(b), uint64(out), flags, err, uint64(wantOut), wantFlags)
	}
}
