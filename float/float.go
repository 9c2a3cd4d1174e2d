// Package float is layer 1, floats of three kinds by their bits: see shared/doc/01-float.md.
package float

import (
	"cmp"
	"math/bits"

	"quadrat/api"
)

// greatestExponent bounds the e of Make on both sides.
const greatestExponent = 2000

// Valid reports whether kind is one, and a has bits of it.
func Valid(kind, a int) bool {
	l, ok := layoutOf(kind)
	return ok && l.holds(a)
}

// Add returns a + b.
func Add(kind, mode, a, b int) (out, flags int, err api.Errno) {
	return two(kind, mode, a, b, layout.add)
}

// Sub returns a - b.
func Sub(kind, mode, a, b int) (out, flags int, err api.Errno) {
	return two(kind, mode, a, b, layout.sub)
}

// Mul returns a * b.
func Mul(kind, mode, a, b int) (out, flags int, err api.Errno) {
	return two(kind, mode, a, b, layout.mul)
}

// Div returns a / b.
func Div(kind, mode, a, b int) (out, flags int, err api.Errno) {
	return two(kind, mode, a, b, layout.div)
}

// two does an operation, after what all of them have in common: errors, and no numbers.
func two(kind, mode, a, b int, do operation) (out, flags int, err api.Errno) {
	l, ok := layoutOf(kind)
	if !ok || !isMode(mode) || !l.holds(a) || !l.holds(b) {
		return 0, 0, api.ErrArg
	}
	x, y := l.open(a), l.open(b)
	if x.class == classNone || y.class == classNone {
		return l.quiet(), 0, api.OK
	}
	out, flags = do(l, mode, x, y)
	return out, flags, api.OK
}

// Sqrt returns the square root of a.
func Sqrt(kind, mode, a int) (out, flags int, err api.Errno) {
	l, ok := layoutOf(kind)
	if !ok || !isMode(mode) || !l.holds(a) {
		return 0, 0, api.ErrArg
	}
	out, flags = l.sqrt(mode, l.open(a))
	return out, flags, api.OK
}

// Compare returns -1, 0, 1, as a is less than b, equal, or greater; 2, if one is no number.
func Compare(kind, a, b int) (int, api.Errno) {
	l, ok := layoutOf(kind)
	if !ok || !l.holds(a) || !l.holds(b) {
		return 0, api.ErrArg
	}
	if l.class(a) == classNone || l.class(b) == classNone {
		return 2, api.OK
	}
	// Sizes stay below 2^63; so both zeros are 0, and no opposite overflows.
	place := func(x int) int {
		if l.sign(x) == 1 {
			return -int(l.size(x))
		}
		return int(l.size(x))
	}
	return cmp.Compare(place(a), place(b)), api.OK
}

// FromInt rounds an integer to a float.
func FromInt(kind, mode, n int) (out, flags int, err api.Errno) {
	l, ok := layoutOf(kind)
	if !ok || !isMode(mode) {
		return 0, 0, api.ErrArg
	}
	if n == 0 {
		return l.join(0, 0), 0, api.OK
	}
	v := exact{lo: uint64(n)}
	if n < 0 {
		v.sign, v.lo = 1, -v.lo
	}
	out, flags = l.round(mode, v)
	return out, flags, api.OK
}

// ToInt rounds a float to an integer.
func ToInt(kind, mode, a int) (n, flags int, err api.Errno) {
	l, ok := layoutOf(kind)
	if !ok || !isMode(mode) || !l.holds(a) {
		return 0, 0, api.ErrArg
	}
	x := l.open(a)
	if x.class == classInfinite || x.class == classNone {
		return 0, 0, api.ErrRange
	}
	size, rest, ok := x.whole(mode)
	if !ok || size > 1<<63-1+uint64(x.sign) { // there is one more below 0
		return 0, 0, api.ErrRange
	}
	if rest != restNothing {
		flags = flagInexact
	}
	if x.sign == 1 {
		size = -size
	}
	return int(size), flags, api.OK
}

// Convert rounds a float of one kind to another.
func Convert(from, to, mode, a int) (out, flags int, err api.Errno) {
	l, ok := layoutOf(from)
	t, is := layoutOf(to)
	if !ok || !is || !isMode(mode) || !l.holds(a) {
		return 0, 0, api.ErrArg
	}
	x := l.open(a)
	switch x.class {
	case classNone:
		return t.quiet(), 0, api.OK
	case classInfinite:
		return t.infinite(x.sign), 0, api.OK
	case classZero:
		return t.join(x.sign, 0), 0, api.OK
	}
	out, flags = t.round(mode, exact{sign: x.sign, lo: x.m, e: x.e})
	return out, flags, api.OK
}

// Neg changes the sign.
func Neg(kind, a int) (int, api.Errno) {
	return signed(kind, a, func(sign int) int { return sign ^ 1 })
}

// Abs makes the sign 0.
func Abs(kind, a int) (int, api.Errno) {
	return signed(kind, a, func(int) int { return 0 })
}

// signed gives a float the sign that look makes of its sign; no number has none.
func signed(kind, a int, look func(sign int) int) (int, api.Errno) {
	l, ok := layoutOf(kind)
	if !ok || !l.holds(a) {
		return 0, api.ErrArg
	}
	if l.class(a) == classNone {
		return l.quiet(), api.OK
	}
	return l.join(look(l.sign(a)), l.size(a)), api.OK
}

// Class returns the name of a float's class, or "".
func Class(kind, a int) string {
	l, ok := layoutOf(kind)
	if !ok || !l.holds(a) {
		return ""
	}
	return classNames[l.class(a)]
}

// Parts returns the sign, an odd m, and e with the size m * 2^e; of a zero m and e are 0.
func Parts(kind, a int) (sign, m, e int, err api.Errno) {
	l, ok := layoutOf(kind)
	if !ok || !l.holds(a) {
		return 0, 0, 0, api.ErrArg
	}
	x := l.open(a)
	switch x.class {
	case classInfinite, classNone:
		return 0, 0, 0, api.ErrRange
	case classZero:
		return x.sign, 0, 0, api.OK
	}
	even := bits.TrailingZeros64(x.m)
	return x.sign, int(x.m >> even), x.e + even, api.OK
}

// Make rounds m * 2^e with a sign to a float.
func Make(kind, mode, sign, m, e int) (out, flags int, err api.Errno) {
	l, ok := layoutOf(kind)
	if !ok || !isMode(mode) || sign != 0 && sign != 1 || m < 0 || e < -greatestExponent || e > greatestExponent {
		return 0, 0, api.ErrArg
	}
	if m == 0 {
		return l.join(sign, 0), 0, api.OK
	}
	out, flags = l.round(mode, exact{sign: sign, lo: uint64(m), e: e})
	return out, flags, api.OK
}

// Next returns the next greater, or the next lesser float.
func Next(kind, a int, up bool) (int, api.Errno) {
	l, ok := layoutOf(kind)
	if !ok || !l.holds(a) {
		return 0, api.ErrArg
	}
	side := 1 // the sign of the floats on whose side it goes
	if up {
		side = 0
	}
	class, size := l.class(a), l.size(a)
	switch {
	case class == classNone:
		return l.quiet(), api.OK
	case class == classZero:
		return l.join(side, 1), api.OK
	case l.sign(a) != side:
		return l.join(1-side, size-1), api.OK
	case class == classInfinite:
		return a, api.OK
	}
	return l.join(side, size+1), api.OK
}
