package array

import (
	"quadrat/api"
	"quadrat/float"
)

// Modes of layer 1.
const (
	toNearest  = 0
	towardZero = 1
)

func isKind(kind int) bool {
	return isNumber(kind) || kind == api.KLogical
}

// isNumber reports whether values of a kind are numbers.
func isNumber(kind int) bool {
	return kind == api.KInt || isFloat(kind)
}

func isFloat(kind int) bool {
	return kind == api.KReal4 || kind == api.KReal8
}

func isInteger(n int) bool {
	return n >= -api.MaxInt && n <= api.MaxInt
}

// size returns how many bytes a float of a kind has: its kind in layer 1.
func size(kind int) int {
	if kind == api.KReal4 {
		return 4
	}
	return 8
}

// canBring reports whether values of one kind can be brought to another one.
func canBring(kind, from int) bool {
	return kind == from || isNumber(kind) && isNumber(from)
}

// bring brings a number to a kind; one that is of it stays, bit by bit.
func bring(kind, from, n int) (int, api.Errno) {
	switch {
	case kind == from:
		return n, api.OK
	case kind == api.KInt:
		whole, _, err := float.ToInt(size(from), towardZero, n)
		if err != api.OK || !isInteger(whole) {
			return 0, api.ErrRange
		}
		return whole, api.OK
	case from == api.KInt:
		out, _, err := float.FromInt(size(kind), toNearest, n)
		return out, err
	}
	out, _, err := float.Convert(size(from), size(kind), toNearest, n)
	return out, err
}

// infinite returns the infinite float of a kind.
func infinite(kind int) int {
	one, _ := bring(kind, api.KInt, 1)
	out, _, _ := float.Div(size(kind), toNearest, one, 0)
	return out
}

// greatest returns what is above all other numbers of a kind.
func greatest(kind int) int {
	if kind == api.KInt {
		return api.MaxInt
	}
	return infinite(kind)
}

// least returns what is below all other numbers of a kind.
func least(kind int) int {
	if kind == api.KInt {
		return -api.MaxInt
	}
	out, _ := float.Neg(size(kind), infinite(kind))
	return out
}
