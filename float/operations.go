package float

import "math/bits"

// operation is what is done with two floats that are numbers.
type operation func(l layout, mode int, x, y number) (out, flags int)

func (l layout) add(mode int, x, y number) (out, flags int) {
	opposite := func() bool { return x.sign != y.sign }
	switch {
	case x.class == classInfinite && y.class == classInfinite && opposite():
		return l.quiet(), flagInvalid
	case x.class == classInfinite:
		return l.infinite(x.sign), 0
	case y.class == classInfinite:
		return l.infinite(y.sign), 0
	}
	v := sum(x, y)
	switch {
	case v.hi|v.lo != 0:
		return l.round(mode, v)
	case !opposite():
		return l.join(x.sign, 0), 0
	case mode == modeDown:
		return l.join(1, 0), 0
	}
	return l.join(0, 0), 0
}

// sum adds two finite floats exactly. The one with the greater exponent stands 64 bits up; what the other one loses behind these is below any half.
func sum(x, y number) exact {
	if x.e < y.e {
		x, y = y, x
	}
	hi, lo, lost := shift(y.m, 0, x.e-y.e)
	v := exact{sign: x.sign, hi: x.m, e: x.e - 64, more: lost}
	if x.sign == y.sign {
		v.hi, v.lo = v.hi+hi, lo
		return v
	}
	if hi > x.m { // then both have the same exponent: nothing is lost, and lo is 0
		v.hi, v.sign = hi-x.m, y.sign
		return v
	}
	var borrow uint64
	if lost { // what lies between two numbers is the lower one and more
		borrow = 1
	}
	v.lo, borrow = bits.Sub64(0, lo, borrow)
	v.hi, _ = bits.Sub64(x.m, hi, borrow)
	return v
}

func (l layout) sub(mode int, x, y number) (out, flags int) {
	y.sign ^= 1
	return l.add(mode, x, y)
}

func (l layout) mul(mode int, x, y number) (out, flags int) {
	sign := x.sign ^ y.sign
	either := func(class int) bool { return x.class == class || y.class == class }
	switch {
	case either(classZero) && either(classInfinite):
		return l.quiet(), flagInvalid
	case either(classInfinite):
		return l.infinite(sign), 0
	case either(classZero):
		return l.join(sign, 0), 0
	}
	hi, lo := bits.Mul64(x.m, y.m)
	return l.round(mode, exact{sign: sign, hi: hi, lo: lo, e: x.e + y.e})
}

func (l layout) div(mode int, x, y number) (out, flags int) {
	sign := x.sign ^ y.sign
	switch {
	case x.class == y.class && (x.class == classZero || x.class == classInfinite):
		return l.quiet(), flagInvalid
	case x.class == classInfinite:
		return l.infinite(sign), 0
	case x.class == classZero || y.class == classInfinite:
		return l.join(sign, 0), 0
	case y.class == classZero:
		return l.infinite(sign), flagByZero
	}
	v := quotient(x, y)
	v.sign = sign
	return l.round(mode, v)
}

// quotient divides to 63 or 64 digits. Both numbers are moved up to their highest bit, and the dividend one down, as Div64 wants it below the divisor; it has no digit so low that this would lose it.
func quotient(x, y number) exact {
	up, below := bits.LeadingZeros64(x.m), bits.LeadingZeros64(y.m)
	q, rest := bits.Div64(x.m<<up>>1, 0, y.m<<below)
	return exact{lo: q, e: x.e - up - (y.e - below) - 63, more: rest != 0}
}

func (l layout) sqrt(mode int, x number) (out, flags int) {
	switch {
	case x.class == classNone:
		return l.quiet(), 0
	case x.class == classZero:
		return l.join(x.sign, 0), 0
	case x.sign == 1:
		return l.quiet(), flagInvalid
	case x.class == classInfinite:
		return l.infinite(0), 0
	}
	up := 64 + bits.LeadingZeros64(x.m)
	if (x.e-up)%2 != 0 { // half of the exponent must be whole
		up--
	}
	root, more := rootOf(x.m << (up - 64))
	return l.round(mode, exact{lo: root, e: (x.e - up) / 2, more: more})
}

// rootOf returns the whole root of m * 2^64, bit by bit, and whether something is left.
func rootOf(m uint64) (root uint64, more bool) {
	for bit := uint64(1) << 63; bit > 0; bit >>= 1 {
		hi, lo := bits.Mul64(root|bit, root|bit)
		if hi < m || hi == m && lo == 0 {
			root |= bit
		}
	}
	hi, lo := bits.Mul64(root, root)
	return root, hi != m || lo != 0
}
