package decimal

import (
	"sort"
	"strings"

	"quadrat/float"
)

// Modes of rounding, as layer 1 counts them.
const (
	modeNearest = iota
	modeToZero
	modeDown
	modeUp
)

const (
	// farthest bounds exponents of 10: beyond it every kind has overflow, or underflow to what is nearest to 0, wherever the number lies there.
	farthest = 400
	// enoughDigits are so many that some number with them reads back as the float, of each kind.
	enoughDigits = 17
)

// number is 0.digits * 10^x with a sign; the first digit is not 0, and 0 has none.
type number struct {
	sign   int
	digits string
	x      int
}

// expand returns a finite float exactly.
func expand(kind, a int) number {
	sign, m, e, _ := float.Parts(kind, a)
	if m == 0 {
		return number{sign: sign}
	}
	g := great{uint64(m)}
	if e < 0 { // m / 2^-e = m * 5^-e / 10^-e
		g = g.timesFives(-e)
	} else {
		g = g.up(e)
		e = 0
	}
	var text strings.Builder
	for digit := range g.digits() {
		text.WriteByte(digit)
	}
	return number{sign, text.String(), text.Len() + e}
}

// float rounds a number to a float.
func (v number) float(kind, mode int) (out, flags int) {
	m, e := v.binary()
	out, flags, _ = float.Make(kind, mode, v.sign, m, e)
	return out, flags
}

// binary returns m and e with the size m * 2^e, or, where m would need more bits than topBits, an m whose last bit is 1 instead of what is cut off: as no float has a bit so low, it is rounded, with the same flags, as the number would be.
func (v number) binary() (m, e int) {
	if v.digits == "" {
		return 0, 0
	}
	g := greatOf(v.digits)
	power := min(max(v.x, -farthest), farthest) - len(v.digits)
	cut := false
	e = power
	if power < 0 { // as 8 is above 5, the quotient has more than the bits that are wanted
		up := wordBits - 3*power
		g, cut = g.up(up).byFives(-power)
		e -= up
	} else {
		g = g.timesFives(power)
	}
	top, below, more := g.top()
	m = int(top << 1)
	if cut || more {
		m++
	}
	return m, e + below - 1
}

// cut returns the first n digits, rounded by a mode, and whether a 1 was carried out in front of them. An n below 0 counts zeros ahead of the digits: all of them are cut off.
func (v number) cut(mode, n int) (kept string, carried bool) {
	at := min(max(n, 0), len(v.digits))
	behind := strings.TrimRight(zeros(-n)+v.digits[at:], "0")
	digits := []byte(v.digits[:at] + zeros(n-at))
	if !steps(mode, v.sign, digits, behind) {
		return string(digits), false
	}
	for i := len(digits) - 1; i >= 0; i-- {
		if digits[i] != '9' {
			digits[i]++
			return string(digits), false
		}
		digits[i] = '0'
	}
	return string(digits), true
}

// steps reports whether rounding goes from the digits that were kept to the next number away from 0; what is behind them has no zeros at its end, so that it compares as texts do.
func steps(mode, sign int, kept []byte, behind string) bool {
	if behind == "" {
		return false
	}
	switch mode {
	case modeNearest:
		odd := len(kept) > 0 && kept[len(kept)-1]%2 == 1
		return behind > "5" || behind == "5" && odd
	case modeDown:
		return sign == 1
	case modeUp:
		return sign == 0
	}
	return false
}

// to rounds to n digits, of which there is at least one; those of 0 are zeros.
func (v number) to(mode, n int) number {
	digits, carried := v.cut(mode, n)
	if carried { // then all that was kept are zeros now
		return number{v.sign, "1" + digits[1:], v.x + 1}
	}
	return number{v.sign, digits, v.x}
}

// shortest returns the least digits that read back as a finite float that is not 0.
func shortest(kind, a int) number {
	v := expand(kind, a)
	sign := v.sign
	v.sign = 0
	size, _ := float.Abs(kind, a)
	// What reads back does so with a zero more; so the counts that do are all those from one on.
	n := 1 + sort.Search(enoughDigits-1, func(i int) bool {
		_, ok := v.back(kind, size, i+1)
		return ok
	})
	found, _ := v.back(kind, size, n)
	found.sign = sign
	return found
}

// back returns, of the numbers of n digits that read back as a float above 0, the nearest one. As those that do lie around the float without a gap, it is the nearest one of all, or its neighbour on the other side.
func (v number) back(kind, size, n int) (number, bool) {
	for _, mode := range []int{modeNearest, modeDown, modeUp} {
		near := v.to(mode, n)
		if out, _ := near.float(kind, modeNearest); out == size {
			return near, true
		}
	}
	return number{}, false
}
