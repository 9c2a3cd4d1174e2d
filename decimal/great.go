package decimal

import (
	"iter"
	"math/bits"
	"slices"
	"strconv"
)

const (
	wordBits   = 64
	topBits    = 62                   // so many bits, and one more behind them, are an int
	pieceSize  = 10000000000000000000 // the greatest power of 10 in a word
	pieceCount = 19                   // its zeros
	fives      = 7450580596923828125  // the greatest power of 5 in a word
	fivesCount = 27                   // its exponent
)

// great is a natural number of any size: its words, the lowest first, and the highest one not 0. Its methods use up the old number for the new one.
type great []uint64

// greatOf reads digits.
func greatOf(digits string) great {
	var g great
	for i := range len(digits) {
		g = g.times(10, uint64(digits[i]-'0'))
	}
	return g
}

// times returns g * factor + plus; the factor is not 0.
func (g great) times(factor, plus uint64) great {
	for i, word := range g {
		hi, lo := bits.Mul64(word, factor)
		lo, carry := bits.Add64(lo, plus, 0)
		g[i], plus = lo, hi+carry
	}
	if plus != 0 {
		g = append(g, plus)
	}
	return g
}

// by divides by a number that is not 0.
func (g great) by(divisor uint64) (quotient great, rest uint64) {
	for i, word := range slices.Backward(g) {
		g[i], rest = bits.Div64(rest, word, divisor)
	}
	if last := len(g) - 1; last >= 0 && g[last] == 0 { // a divisor of one word takes at most one away
		g = g[:last]
	}
	return g, rest
}

// up returns g * 2^n.
func (g great) up(n int) great {
	if len(g) == 0 {
		return g
	}
	g = append(make(great, n/wordBits), g...)
	return g.times(1<<(n%wordBits), 0)
}

// timesFives returns g * 5^n.
func (g great) timesFives(n int) great {
	for f := range powersOfFive(n) {
		g = g.times(f, 0)
	}
	return g
}

// byFives divides by 5^n, and reports whether something is left. To divide step by step cuts off the same as to divide at once.
func (g great) byFives(n int) (quotient great, more bool) {
	for f := range powersOfFive(n) {
		var rest uint64
		g, rest = g.by(f)
		more = more || rest != 0
	}
	return g, more
}

// powersOfFive gives words whose product is 5^n.
func powersOfFive(n int) iter.Seq[uint64] {
	return func(yield func(uint64) bool) {
		for ; n >= fivesCount; n -= fivesCount {
			if !yield(fives) {
				return
			}
		}
		last := uint64(1)
		for range n {
			last *= 5
		}
		yield(last)
	}
}

// top returns the highest bits m, how many bits are below these, and whether one of those is 1; g is not 0.
func (g great) top() (m uint64, below int, more bool) {
	last := len(g) - 1
	below = max(0, last*wordBits+bits.Len64(g[last])-topBits)
	word, bit := below/wordBits, below%wordBits
	m = g[word] >> bit
	if word < last {
		m |= g[word+1] << (wordBits - bit)
	}
	isSet := func(w uint64) bool { return w != 0 }
	return m, below, isSet(g[word]<<(wordBits-bit)) || slices.ContainsFunc(g[:word], isSet)
}

// digits gives the decimal digits from the highest one; 0 has none.
func (g great) digits() iter.Seq[byte] {
	return func(yield func(byte) bool) {
		var pieces []uint64
		for left := slices.Clone(g); len(left) > 0; {
			var piece uint64
			left, piece = left.by(pieceSize)
			pieces = append(pieces, piece)
		}
		for i, piece := range slices.Backward(pieces) {
			text := strconv.FormatUint(piece, 10)
			if i < len(pieces)-1 {
				text = zeros(pieceCount-len(text)) + text
			}
			for at := range len(text) {
				if !yield(text[at]) {
					return
				}
			}
		}
	}
}
