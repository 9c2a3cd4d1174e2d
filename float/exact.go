package float

import "math/bits"

// Modes of rounding, by the numbers that callers give; behind them, how many there are.
const (
	modeNearest = iota
	modeToZero
	modeDown
	modeUp
	modes
)

// Flags, which are added.
const (
	flagInvalid = 1 << iota
	flagByZero
	flagOverflow
	flagUnderflow
	flagInexact
)

// What rounding leaves behind the last digit that is kept.
const (
	restNothing = iota
	restLess
	restHalf
	restMore
)

// exact is a value that is not rounded yet: (hi * 2^64 + lo) * 2^e, and, where more is set, something above 0 and below 2^e.
// With more there are always digits to cut: otherwise more could not be compared with a half.
type exact struct {
	sign   int
	hi, lo uint64
	e      int
	more   bool
}

func isMode(mode int) bool {
	return 0 <= mode && mode < modes
}

// outward returns how a directed mode looks at a sign: true where it goes away from 0.
func outward(mode int) func(sign int) bool {
	switch mode {
	case modeDown:
		return func(sign int) bool { return sign == 1 }
	case modeUp:
		return func(sign int) bool { return sign == 0 }
	}
	return func(int) bool { return false }
}

// steps reports whether rounding goes from what was kept to the next number away from 0.
func steps(mode, sign int, kept uint64, rest int) bool {
	if rest == restNothing {
		return false
	}
	if mode == modeNearest {
		return rest == restMore || rest == restHalf && kept&1 == 1
	}
	return outward(mode)(sign)
}

// shift moves 128 bits to the right by k, and reports whether a bit was lost.
func shift(hi, lo uint64, k int) (h, l uint64, lost bool) {
	switch {
	case k >= 128:
		return 0, 0, hi|lo != 0
	case k >= 64:
		return 0, hi >> (k - 64), lo != 0 || hi<<(128-k) != 0
	}
	return hi >> k, lo>>k | hi<<(64-k), lo<<(64-k) != 0
}

func (v exact) length() int {
	if v.hi != 0 {
		return 64 + bits.Len64(v.hi)
	}
	return bits.Len64(v.lo)
}

// cut keeps all but the k lowest digits, which must be no more than a float has, and tells what the others are.
func (v exact) cut(k int) (kept uint64, rest int) {
	if k <= 0 {
		return v.lo << -k, restNothing
	}
	_, lo, lost := shift(v.hi, v.lo, k-1)
	lost = lost || v.more
	kept = lo >> 1
	switch {
	case lo&1 == 1 && lost:
		return kept, restMore
	case lo&1 == 1:
		return kept, restHalf
	case lost:
		return kept, restLess
	}
	return kept, restNothing
}

// round rounds a value that is not 0 to a float.
func (l layout) round(mode int, v exact) (out, flags int) {
	last := v.e + v.length() - l.digits
	tiny := last < l.lowest()
	last = max(last, l.lowest())
	m, rest := v.cut(last - v.e)
	if steps(mode, v.sign, m, rest) {
		m++
	}
	if rest != restNothing {
		flags = flagInexact
		if tiny {
			flags |= flagUnderflow
		}
	}
	// The hidden digit of m adds 1 to the exponent's bits, and a step that ran through all digits one more: so the sum is right for least floats, normal ones, and what lies between. No operation leads to an exponent 2^12 above the lowest one, so even a value that is far too great fits into size.
	size := uint64(last-l.lowest())<<(l.digits-1) + m
	if size >= l.endless() {
		return l.overflow(mode, v.sign)
	}
	return l.join(v.sign, size), flags
}

func (l layout) overflow(mode, sign int) (out, flags int) {
	if mode == modeNearest || outward(mode)(sign) {
		return l.infinite(sign), flagOverflow | flagInexact
	}
	return l.greatest(sign), flagOverflow | flagInexact
}

// whole rounds a finite float to a whole number without its sign; ok is false, if that does not fit into 64 bits.
func (x number) whole(mode int) (n uint64, rest int, ok bool) {
	if bits.Len64(x.m)+x.e > 64 {
		return 0, restNothing, false
	}
	n, rest = exact{lo: x.m}.cut(-x.e)
	if steps(mode, x.sign, n, rest) {
		n++
	}
	return n, rest, true
}
