package token

import (
	"strings"

	"quadrat/api"
)

// The digits that numbers may have.
const (
	mostIntDigits      = 10
	mostRealDigits     = 60 // those of the exponent are not among them
	mostExponentDigits = 3
)

const point = '.'

// readNumber reads an int or a real. All that can belong to it is taken before it is looked at how much that is: one that is too long is malformed as a whole.
func readNumber(text string, at int) (t api.Token, end int, ok bool) {
	kind, most := kindInt, mostIntDigits
	end = runEnd(text, at, isDigit)
	digits := end - at
	if pointBelongs(text, end) {
		kind, most = kindReal, mostRealDigits
		behind := runEnd(text, end+1, isDigit)
		digits += behind - end - 1
		end = behind
	}
	if behind := exponentEnd(text, end); behind > end {
		kind, most = kindReal, mostRealDigits
		end = behind
	}
	if digits > most || holds(text, end, inName) {
		return api.Token{}, 0, false
	}
	return api.Token{Kind: kind, Text: strings.ToLower(text[at:end])}, end, true
}

// pointBelongs reports whether a point at a place belongs to the digits ahead of it. A letter behind it is a word's, unless it can be an exponent's; and .eqv. has one that can.
func pointBelongs(text string, at int) bool {
	isPoint := func(b byte) bool { return b == point }
	isOther := func(b byte) bool { return isLetter(b) && !isExponent(b) }
	if !holds(text, at, isPoint) || holds(text, at+1, isOther) {
		return false
	}
	_, isWord := wordAt(text, at)
	return !isWord
}

// isExponent reports whether a letter may begin an exponent.
func isExponent(b byte) bool {
	return strings.IndexByte("eEdD", b) >= 0
}

// exponentEnd returns where an exponent ends that begins at a place, or the place itself, where there is none.
func exponentEnd(text string, at int) int {
	isSign := func(b byte) bool { return b == '+' || b == '-' }
	if !holds(text, at, isExponent) {
		return at
	}
	first := at + 1
	if holds(text, first, isSign) {
		first++
	}
	end := runEnd(text, first, isDigit)
	if end == first || end > first+mostExponentDigits {
		return at
	}
	return end
}
