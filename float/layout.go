package float

// Classes of floats.
const (
	classZero = iota
	classLeast
	classNormal
	classInfinite
	classNone
)

// classNames stands in the order of the classes.
var classNames = [...]string{"zero", "least", "normal", "infinite", "none"}

// layout is how a kind lays out its floats: the bits in all, the digits (p), and the bits of the exponent (w).
type layout struct{ width, digits, exponent int }

// number is a float that is taken apart. A finite one is m * 2^e, also a zero, whose e is that of the least floats.
type number struct {
	class, sign int
	m           uint64
	e           int
}

func layoutOf(kind int) (layout, bool) {
	switch kind {
	case 2:
		return layout{16, 11, 5}, true
	case 4:
		return layout{32, 24, 8}, true
	case 8:
		return layout{64, 53, 11}, true
	}
	return layout{}, false
}

// hidden is the highest digit of a normal float, which its bits leave out.
func (l layout) hidden() uint64 {
	return 1 << (l.digits - 1)
}

func (l layout) bias() int {
	return 1<<(l.exponent-1) - 1
}

// lowest is the exponent of the last digit of the least floats.
func (l layout) lowest() int {
	return 2 - l.bias() - l.digits
}

// endless is the size of the infinite floats: all sizes below it are finite, all above it are no numbers.
func (l layout) endless() uint64 {
	return (1<<l.exponent - 1) << (l.digits - 1)
}

func (l layout) infinite(sign int) int {
	return l.join(sign, l.endless())
}

func (l layout) greatest(sign int) int {
	return l.join(sign, l.endless()-1)
}

func (l layout) quiet() int {
	return l.join(0, l.endless()|l.hidden()>>1)
}

// holds reports whether a's bits are of this kind. Of 64 bits all are, whose int may be below 0.
func (l layout) holds(a int) bool {
	return l.width == 64 || a >= 0 && a>>l.width == 0
}

func (l layout) sign(a int) int {
	return int(uint64(a) >> (l.width - 1))
}

// size is a float's bits without its sign: sizes are in order as the values are.
func (l layout) size(a int) uint64 {
	return uint64(a) & (1<<(l.width-1) - 1)
}

func (l layout) join(sign int, size uint64) int {
	return int(uint64(sign)<<(l.width-1) | size)
}

func (l layout) class(a int) int {
	size := l.size(a)
	switch {
	case size == 0:
		return classZero
	case size < l.hidden():
		return classLeast
	case size < l.endless():
		return classNormal
	case size == l.endless():
		return classInfinite
	}
	return classNone
}

// open takes a float apart; infinite ones and no numbers have no m and e.
func (l layout) open(a int) number {
	x := number{class: l.class(a), sign: l.sign(a)}
	size := l.size(a)
	switch x.class {
	case classZero, classLeast:
		x.m, x.e = size, l.lowest()
	case classNormal:
		x.m = size&(l.hidden()-1) | l.hidden()
		x.e = int(size>>(l.digits-1)) - 1 + l.lowest()
	}
	return x
}
