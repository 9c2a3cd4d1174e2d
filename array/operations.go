package array

import (
	"cmp"

	"quadrat/api"
	"quadrat/float"
)

// work is what is done with the numbers of one element of each operand.
type work func(l []int) (int, api.Errno)

// pair is what is done with two numbers of one kind.
type pair func(a, b int) (int, api.Errno)

// valued does a work with values whose kinds suit it.
func valued(kind int, do work, l ...int) (api.Value, api.Errno) {
	n, err := do(l)
	if err != api.OK {
		return api.Value{}, err
	}
	return api.Value{Kind: kind, N: n}, api.OK
}

func kindOfOne(op string, a int) int {
	if (op == "+" || op == "-") && isNumber(a) || op == ".not." && a == api.KLogical {
		return a
	}
	return 0
}

func kindOfTwo(op string, a, b int) int {
	numbers := isNumber(a) && isNumber(b)
	logicals := a == api.KLogical && b == api.KLogical
	is := false
	switch op {
	case "+", "-", "*", "/":
		if numbers {
			return common(a, b)
		}
	case "==", "/=":
		is = numbers || logicals
	case "<", "<=", ">", ">=":
		is = numbers
	case ".and.", ".or.":
		is = logicals
	}
	if is {
		return api.KLogical
	}
	return 0
}

// common returns the kind to which two numbers are brought: kinds are counted in their order. Two logicals have theirs.
func common(a, b int) int {
	return max(a, b)
}

// workOfOne returns an operation with one operand, for a kind of which there is one.
func workOfOne(op string, kind int) work {
	return func(l []int) (int, api.Errno) {
		n := l[0]
		switch {
		case op == ".not.":
			return 1 - n, api.OK
		case op == "-" && kind == api.KInt:
			return -n, api.OK
		case op == "-":
			return float.Neg(size(kind), n)
		case kind == api.KInt:
			return n, api.OK
		}
		// It makes the quiet one of what is no number.
		out, _, err := float.Convert(size(kind), size(kind), toNearest, n)
		return out, err
	}
}

// workOfTwo returns an operation with two operands, for kinds of which there is one.
func workOfTwo(op string, a, b int) work {
	return workOfPair(pairOf(op, common(a, b)), a, b)
}

// workOfPair brings two numbers to one kind ahead of what is done with them, which is always in range: it is not the lesser kind.
func workOfPair(do pair, a, b int) work {
	kind := common(a, b)
	return func(l []int) (int, api.Errno) {
		x, _ := bring(kind, a, l[0])
		y, _ := bring(kind, b, l[1])
		return do(x, y)
	}
}

func workOfBringing(kind, from int) work {
	return func(l []int) (int, api.Errno) {
		return bring(kind, from, l[0])
	}
}

// pairOf returns an operation with two operands of one kind, of which there is one.
func pairOf(op string, kind int) pair {
	switch op {
	case "+", "-", "*", "/":
		return arithmetic(op, kind)
	case ".and.":
		return func(a, b int) (int, api.Errno) { return a & b, api.OK }
	case ".or.":
		return func(a, b int) (int, api.Errno) { return a | b, api.OK }
	}
	return func(a, b int) (int, api.Errno) { return truth(holds(op, compare(kind, a, b))), api.OK }
}

func arithmetic(op string, kind int) pair {
	if kind == api.KInt {
		return func(a, b int) (int, api.Errno) { return wholes(op, a, b) }
	}
	do := floats()[op]
	return func(a, b int) (int, api.Errno) {
		out, _, err := do(size(kind), toNearest, a, b)
		return out, err
	}
}

// floats returns the operations of floats.
func floats() map[string]func(kind, mode, a, b int) (out, flags int, err api.Errno) {
	return map[string]func(kind, mode, a, b int) (out, flags int, err api.Errno){
		"+": float.Add,
		"-": float.Sub,
		"*": float.Mul,
		"/": float.Div,
	}
}

// wholes does an operation with integers; these are small enough that each result is exact.
func wholes(op string, a, b int) (int, api.Errno) {
	n := 0
	switch {
	case op == "+":
		n = a + b
	case op == "-":
		n = a - b
	case op == "*":
		n = a * b
	case b == 0:
		return 0, api.ErrZero
	default:
		n = a / b
	}
	if !isInteger(n) {
		return 0, api.ErrRange
	}
	return n, api.OK
}

// compare returns -1, 0, 1, or 2, if one of two floats is no number.
func compare(kind, a, b int) int {
	if !isFloat(kind) {
		return cmp.Compare(a, b)
	}
	n, _ := float.Compare(size(kind), a, b)
	return n
}

// holds reports whether a comparison is true by what compare returns.
func holds(op string, n int) bool {
	switch op {
	case "==":
		return n == 0
	case "/=":
		return n != 0
	case "<":
		return n == -1
	case "<=":
		return n == -1 || n == 0
	case ">":
		return n == 1
	}
	return n == 1 || n == 0
}

func truth(is bool) int {
	if is {
		return 1
	}
	return 0
}
