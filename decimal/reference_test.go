package decimal

import (
	"math/big"
	"math/rand"
	"sort"
	"strings"
	"testing"

	"quadrat/api"
)

// The tests hold the package against exact rationals: a float's value by the formula of chapter 1, a text's value digit by digit, and rounding as a choice between two neighbours. Nothing of this is shared with the package.

var kinds = []int{2, 4, 8}

// layoutOf returns p and w of a kind.
func layoutOf(kind int) (p, w uint) {
	switch kind {
	case 2:
		return 11, 5
	case 4:
		return 24, 8
	}
	return 53, 11
}

func signBit(kind int) uint64 {
	return 1 << (8*uint(kind) - 1)
}

// infBits is the infinite one above 0.
func infBits(kind int) uint64 {
	p, w := layoutOf(kind)
	return (1<<w - 1) << (p - 1)
}

func quietBits(kind int) int {
	p, _ := layoutOf(kind)
	return int(infBits(kind) | 1<<(p-2))
}

func leastNormal(kind int) uint64 {
	p, _ := layoutOf(kind)
	return 1 << (p - 1)
}

func sizeOf(kind, a int) uint64 {
	return uint64(a) & (signBit(kind) - 1)
}

func isNegative(kind, a int) bool {
	return uint64(a)&signBit(kind) != 0
}

// negative sets the sign.
func negative(kind int, size uint64) int {
	return int(size | signBit(kind))
}

// raise returns base^e.
func raise(base int64, e int) *big.Rat {
	n := new(big.Int)
	if e >= 0 {
		return new(big.Rat).SetInt(n.Exp(big.NewInt(base), big.NewInt(int64(e)), nil))
	}
	return new(big.Rat).SetFrac(big.NewInt(1), n.Exp(big.NewInt(base), big.NewInt(int64(-e)), nil))
}

// valueOf is a finite float's size. Of the infinite one it gives the number that would follow the greatest finite one.
func valueOf(kind int, size uint64) *big.Rat {
	p, w := layoutOf(kind)
	bias := 1<<(w-1) - 1
	e, f := int(size>>(p-1)), size&(1<<(p-1)-1)
	power := 2 - bias - int(p)
	if e > 0 {
		f, power = f+1<<(p-1), e-bias-int(p)+1
	}
	m := new(big.Rat).SetInt(new(big.Int).SetUint64(f))
	return m.Mul(m, raise(2, power))
}

// away tells the modes that go away from 0, for a sign.
func away(mode int, negative bool) bool {
	return mode == 2 && negative || mode == 3 && !negative
}

// roundedSize is the rounded size of a value above 0.
func roundedSize(kind, mode int, negative bool, v *big.Rat) (size uint64, flags int) {
	end := infBits(kind)
	above := sort.Search(int(end), func(i int) bool { return valueOf(kind, uint64(i)+1).Cmp(v) > 0 })
	low := uint64(above)
	if low == end {
		if mode == 0 || away(mode, negative) {
			return end, 20
		}
		return end - 1, 20
	}
	if valueOf(kind, low).Cmp(v) == 0 {
		return low, 0
	}
	flags = 16
	if v.Cmp(valueOf(kind, leastNormal(kind))) < 0 {
		flags = 24
	}
	middle := new(big.Rat).Add(valueOf(kind, low), valueOf(kind, low+1))
	half := v.Cmp(middle.Mul(middle, big.NewRat(1, 2)))
	if away(mode, negative) || mode == 0 && (half > 0 || half == 0 && low%2 == 1) {
		low++
	}
	if low == end {
		flags = 20
	}
	return low, flags
}

// numeral is what a text is made of.
type numeral struct {
	negative bool
	digits   string
	point    int // so many digits are ahead of it
	power    int
}

func (n numeral) text(letter string) string {
	s := n.digits[:n.point] + "." + n.digits[n.point:]
	if n.negative {
		s = "-" + s
	}
	if letter == "" {
		return s
	}
	return s + letter + big.NewInt(int64(n.power)).String()
}

// value is the size.
func (n numeral) value() *big.Rat {
	m, _ := new(big.Int).SetString(n.digits, 10)
	v := new(big.Rat).SetInt(m)
	return v.Mul(v, raise(10, n.power+n.point-len(n.digits)))
}

// checkRead compares Read in all modes and kinds with the reference.
func checkRead(t *testing.T, n numeral, letter string) {
	t.Helper()
	text, value := n.text(letter), n.value()
	for _, kind := range kinds {
		for mode := range 4 {
			var size uint64
			var wantFlags int
			if value.Sign() != 0 {
				size, wantFlags = roundedSize(kind, mode, n.negative, value)
			}
			want := int(size)
			if n.negative {
				want = negative(kind, size)
			}
			out, flags, err := Read(text, kind, mode)
			if out != want || flags != wantFlags || err != api.OK {
				t.Fatalf("Read of %s, kind %d, mode %d: %#x, %d, %d instead of %#x, %d", text, kind, mode, uint64(out), flags, err, uint64(want), wantFlags)
			}
		}
	}
}

// wholeNear returns a value rounded to a whole number by a mode.
func wholeNear(mode int, negative bool, v *big.Rat) *big.Int {
	n, rest := new(big.Int).QuoRem(v.Num(), v.Denom(), new(big.Int))
	if rest.Sign() == 0 {
		return n
	}
	half := rest.Lsh(rest, 1).Cmp(v.Denom())
	if away(mode, negative) || mode == 0 && (half > 0 || half == 0 && n.Bit(0) == 1) {
		n.Add(n, big.NewInt(1))
	}
	return n
}

// decade returns the x with 10^(x-1) <= v < 10^x.
func decade(v *big.Rat) int {
	x := len(v.Num().String()) - len(v.Denom().String())
	for raise(10, x).Cmp(v) <= 0 {
		x++
	}
	for raise(10, x-1).Cmp(v) > 0 {
		x--
	}
	return x
}

// digitsOf is a value above 0, rounded to n digits.
func digitsOf(mode int, negative bool, v *big.Rat, n int) (digits string, x int) {
	x = decade(v)
	digits = wholeNear(mode, negative, new(big.Rat).Mul(v, raise(10, n-x))).String()
	if len(digits) > n {
		return digits[:n], x + 1
	}
	return digits, x
}

// fixedOf is a size with d digits behind the point.
func fixedOf(mode int, negative bool, v *big.Rat, d int) string {
	digits := wholeNear(mode, negative, new(big.Rat).Mul(v, raise(10, d))).String()
	for len(digits) <= d {
		digits = "0" + digits
	}
	return digits[:len(digits)-d] + "." + digits[len(digits)-d:]
}

// shortestOf looks for the nearest number of the fewest digits that rounds to a float above 0, among those on both sides of it in its decade and the next ones.
func shortestOf(kind int, size uint64) (digits string, x int) {
	v := valueOf(kind, size)
	for n := 1; ; n++ {
		var least *big.Rat
		for at := decade(v) - 1; at <= decade(v)+1; at++ {
			scaled := new(big.Rat).Mul(v, raise(10, n-at))
			for _, mode := range []int{1, 3} {
				text := wholeNear(mode, false, scaled).String()
				if strings.TrimRight(text, "0") == "" || len(text) != n {
					continue
				}
				near := numeral{digits: text, power: at}.value()
				if out, _ := roundedSize(kind, 0, false, near); out != size {
					continue
				}
				far := near.Sub(near, v)
				far.Abs(far)
				if least == nil || far.Cmp(least) < 0 || far.Cmp(least) == 0 && text[n-1]%2 == 0 {
					least, digits, x = far, text, at
				}
			}
		}
		if least != nil {
			return digits, x
		}
	}
}

// edges are the finite floats above 0 that the document names, and some beside them.
func edges(kind int) []uint64 {
	p, w := layoutOf(kind)
	one := uint64(1<<(w-1)-1) << (p - 1)
	normal, end := leastNormal(kind), infBits(kind)
	return []uint64{1, 2, 3, 5, 9, normal / 2, normal - 1, normal, normal + 1, 2*normal - 1, 2 * normal, 3 * normal, one / 2, one - 1, one, one + 1, one + normal/2, one + normal - 1,
		one + normal, one + 3*normal, one + 3*normal - 1, one + normal*uint64(p), one + normal*uint64(p-1) + 1, end - normal, end - normal - 1, end - 2, end - 1}
}

// samples are the edges of a kind, and many other floats above 0.
func samples(kind, count int) []uint64 {
	l := edges(kind)
	r := rand.New(rand.NewSource(int64(kind)))
	for range count {
		l = append(l, 1+r.Uint64()%(infBits(kind)-1))
	}
	return l
}

// signs are both floats of a size.
func signs(kind int, size uint64) []int {
	return []int{int(size), negative(kind, size)}
}
