package array

import (
	"math/rand"
	"testing"

	"quadrat/api"
)

// copyOf is an array in a memory of its own, with room behind its lists that must not be read or written.
func copyOf(a api.Array) api.Array {
	shape := append(append(make([]int, 0, 8), a.Shape...), 77, 77)
	elems := append(append(make([]int, 0, len(a.Elems)+8), a.Elems...), 77, 77)
	return api.Array{Kind: a.Kind, Shape: shape[:len(a.Shape)], Elems: elems[:len(a.Elems)]}
}

// overwrite changes the lists of an array in all of their memory.
func overwrite(a api.Array) {
	for _, l := range [][]int{a.Shape[:cap(a.Shape)], a.Elems[:cap(a.Elems)]} {
		for i := range l {
			l[i] = -88
		}
	}
}

// isUntouched reports whether what lies behind an array's lists is what copyOf laid there.
func isUntouched(a api.Array) bool {
	n, m := len(a.Shape), len(a.Elems)
	return equalInts(a.Shape[n:n+2], []int{77, 77}) && equalInts(a.Elems[m:m+2], []int{77, 77})
}

// checkMemory fails, if a call's result shares memory with its arguments, or in itself, or if the call changes them.
func checkMemory(t *testing.T, name string, do func(l []api.Array) api.Array, l ...api.Array) {
	t.Helper()
	var given []api.Array
	for _, a := range l {
		given = append(given, copyOf(a))
	}
	x := do(given)
	before := copyOf(x)
	for i := range x.Shape {
		x.Shape[i] = -88
	}
	if !equalInts(x.Elems, before.Elems) {
		t.Errorf("%s: shape and elements share memory", name)
	}
	overwrite(x)
	for i, a := range given {
		if !equal(a, l[i]) || !isUntouched(a) {
			t.Errorf("%s: %v became %v", name, l[i], a)
		}
	}
	again := do(given)
	if !equal(again, before) {
		t.Errorf("%s tells another result, %v, not %v", name, again, before)
	}
}

func TestMemory(t *testing.T) {
	call := func(name string) func(l []api.Array) api.Array {
		return func(l []api.Array) api.Array {
			x, err := Call(name, l)
			if err != api.OK {
				t.Errorf("%s%v: %d", name, l, err)
			}
			return x
		}
	}
	n, m, b, r := counted(3), counted(2, 3), logicals(1, 1, 1), reals8(1, 2, 3)
	one := alone(integer(1))
	for name, l := range map[string][][]api.Array{
		"abs": {{n}, {one}}, "int": {{n}, {r}, {one}}, "real": {{r}}, "dble": {{r}, {n}}, "sqrt": {{r}}, "mod": {{n, n}, {n, one}}, "min": {{n, one}, {one, n}}, "max": {{r, n}, {one, one}},
		"merge": {{n, n, b}, {one, one, b}}, "sum": {{m}}, "product": {{m}}, "maxval": {{n}}, "minval": {{n}}, "all": {{b}}, "any": {{b}}, "count": {{b}}, "size": {{m}}, "shape": {{m}, {one}},
		"reshape": {{m, ints(6)}, {m, ints(2, 3)}, {n, ints(3)}}, "transpose": {{m}, {counted(1, 3)}}, "matmul": {{m, n}, {counted(1, 1), counted(1)}}, "cshift": {{n, alone(integer(0))}, {n, one}},
		"spread": {{n, one}, {one, one}}, "maxloc": {{n}}, "minloc": {{n}}, "pack": {{n, b}, {n, alone(logical(1))}},
	} {
		for _, list := range l {
			checkMemory(t, name, call(name), list...)
		}
	}
	do := func(l []api.Array) api.Array {
		x, _ := Do("+", l[0], l[1])
		return x
	}
	checkMemory(t, "+", do, n, n)
	checkMemory(t, "+", do, n, one)
	checkMemory(t, "+", do, one, one)
	single := func(l []api.Array) api.Array {
		x, _ := Single("+", l[0])
		return x
	}
	checkMemory(t, "+", single, r)
	checkMemory(t, "+", single, n)
	convert := func(l []api.Array) api.Array {
		x, _ := Convert(l[0].Kind, l[0])
		return x
	}
	checkMemory(t, "Convert", convert, m)
	checkMemory(t, "Convert", convert, b)
}

// Names gives out a list of its own each time.
func TestNamesMemory(t *testing.T) {
	l := Names()
	for i := range l {
		l[i] = "none"
	}
	if again := Names(); again[0] != "abs" || again[25] != "transpose" {
		t.Errorf("%v", again)
	}
}

// One call after the other tells the same.
func TestEqualCalls(t *testing.T) {
	r := rand.New(rand.NewSource(14))
	for range 500 {
		a, b := someOf(r, samples(api.KReal8), 4), someOf(r, samples(api.KReal4), 4)
		x, _ := Do("*", a, b)
		y, _ := Do("*", copyOf(a), copyOf(b))
		if !equal(x, y) {
			t.Fatalf("%v * %v: %v, %v", a, b, x, y)
		}
	}
}
