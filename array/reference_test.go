package array

import (
	"math"

	"quadrat/api"
)

// What values mean by the machine's numbers, which round as layer 1 does in mode 0.

// asFloat is a number as the machine has it. Each number of the three kinds is exact there.
func asFloat(v api.Value) float64 {
	switch v.Kind {
	case api.KInt:
		return float64(v.N)
	case api.KReal4:
		return float64(math.Float32frombits(uint32(v.N)))
	}
	return math.Float64frombits(uint64(v.N))
}

// asKind rounds a machine's number to a kind of floats; what is no number becomes the quiet one.
func asKind(kind int, x float64) api.Value {
	switch {
	case x != x && kind == api.KReal4:
		return bits4(quiet4)
	case x != x:
		return bits8(quiet8)
	case kind == api.KReal4:
		return real4(x)
	}
	return real8(x)
}

// compute is an operation of two machine's numbers of a kind; two numbers of kind 4 must be rounded just once.
func compute(kind int, op string, x, y float64) api.Value {
	if kind == api.KReal4 {
		a, b := float32(x), float32(y)
		return asKind(kind, float64(map[string]float32{"+": a + b, "-": a - b, "*": a * b, "/": a / b}[op]))
	}
	return asKind(kind, map[string]float64{"+": x + y, "-": x - y, "*": x * y, "/": x / y}[op])
}

func isTrue(is bool) api.Value {
	if is {
		return logical(1)
	}
	return logical(0)
}

// computeWhole is an operation of two integers.
func computeWhole(op string, a, b int) (api.Value, api.Errno) {
	if op == "/" && b == 0 {
		return api.Value{}, api.ErrZero
	}
	n := map[string]int{"+": a + b, "-": a - b, "*": a * b}[op]
	if op == "/" {
		n = int(math.Trunc(float64(a) / float64(b)))
	}
	if n > api.MaxInt || n < -api.MaxInt {
		return api.Value{}, api.ErrRange
	}
	return integer(n), api.OK
}

// expected is what One returns of two numbers.
func expected(op string, a, b api.Value) (api.Value, api.Errno) {
	kind := max(a.Kind, b.Kind)
	x, y := asFloat(a), asFloat(b)
	if kind == api.KReal4 {
		x, y = float64(float32(x)), float64(float32(y))
	}
	switch op {
	case "==":
		return isTrue(x == y), api.OK
	case "/=":
		return isTrue(x != y), api.OK
	case "<":
		return isTrue(x < y), api.OK
	case "<=":
		return isTrue(x <= y), api.OK
	case ">":
		return isTrue(x > y), api.OK
	case ">=":
		return isTrue(x >= y), api.OK
	}
	if kind == api.KInt {
		return computeWhole(op, a.N, b.N)
	}
	return compute(kind, op, x, y), api.OK
}

// expectedTo is what To returns of a number and a kind of numbers.
func expectedTo(kind int, v api.Value) (api.Value, api.Errno) {
	if kind == v.Kind {
		return v, api.OK
	}
	x := asFloat(v)
	if kind != api.KInt {
		return asKind(kind, x), api.OK
	}
	x = math.Trunc(x)
	if !(math.Abs(x) <= api.MaxInt) {
		return api.Value{}, api.ErrRange
	}
	return integer(int(x)), api.OK
}
