package array

import (
	"math"
	"testing"

	"quadrat/api"
)

// Validity comes ahead of the operation's name and of kinds.
func TestOneErrors(t *testing.T) {
	for _, op := range append(operators(), noOperators()...) {
		for _, a := range noValues() {
			for _, b := range append(noValues(), integer(0), logical(1), real8(1)) {
				checkOne(t, op, a, b, api.Value{}, api.ErrArg)
				checkOne(t, op, b, a, api.Value{}, api.ErrArg)
			}
		}
	}
	for _, op := range operators() {
		for _, a := range allSamples() {
			for _, b := range allSamples() {
				if Kind(op, a.Kind, b.Kind) == 0 {
					checkOne(t, op, a, b, api.Value{}, api.ErrType)
				}
			}
		}
	}
}

func TestOnlyErrors(t *testing.T) {
	for _, op := range append(noOperators(), "+", "-", ".not.") {
		for _, a := range noValues() {
			if v, err := Only(op, a); v != (api.Value{}) || err != api.ErrArg {
				t.Errorf("Only(%q, %v) = %v, %d", op, a, v, err)
			}
		}
	}
}

func TestToErrors(t *testing.T) {
	for _, kind := range []int{0, 5, -1, 8, math.MinInt} {
		for _, v := range append(noValues(), allSamples()...) {
			if x, err := To(kind, v); x != (api.Value{}) || err != api.ErrArg {
				t.Errorf("To(%d, %v) = %v, %d", kind, v, x, err)
			}
		}
	}
	for kind := range 6 {
		for _, v := range noValues() {
			if x, err := To(kind, v); x != (api.Value{}) || err != api.ErrArg {
				t.Errorf("To(%d, %v) = %v, %d", kind, v, x, err)
			}
		}
	}
}

func noNames() []string {
	return []string{"", "nothing", "ABS", "Sum", " abs", "abs ", "abs(", "+", "mod2", "maxva", "sums", "z"}
}

// A name that is none, arguments that are not as many, and one that is not valid, come ahead of all else.
func TestCallErrArg(t *testing.T) {
	for _, name := range noNames() {
		for n := range 4 {
			checkError(t, name, args(ints(1), ints(1), ints(1))[:n], api.ErrArg)
		}
		if least, most := Arity(name); least != 0 || most != 0 {
			t.Errorf("%q has %d to %d arguments", name, least, most)
		}
	}
	for _, name := range Names() {
		least, most := Arity(name)
		for n := range 6 {
			if least <= n && n <= most {
				continue
			}
			for _, a := range []api.Array{ints(1), alone(logical(1)), zeros(api.KReal8, 2, 2), {}} {
				checkError(t, name, args(a, a, a, a, a)[:n], api.ErrArg)
			}
		}
		for _, none := range noArrays() {
			for n := range least {
				for _, a := range []api.Array{ints(1), alone(logical(1)), zeros(api.KReal8, 2, 2)} {
					l := args(a, a, a)[:least]
					l[n] = none
					checkError(t, name, l, api.ErrArg)
				}
			}
		}
	}
	checkError(t, "sum", nil, api.ErrArg)
}

// What is wrong about kinds comes ahead of what is wrong about ranks, values, shapes and elements.
func TestCallErrType(t *testing.T) {
	n, b, r, d := ints(1, 2), logicals(1), alone(real4(1)), zeros(api.KReal8, 1, 1, 1)
	for name, l := range map[string][]api.Array{
		"abs": {b}, "int": {b}, "real": {b}, "dble": {b}, "sum": {b, alone(logical(1))}, "product": {b, alone(logical(0))}, "maxval": {b, alone(logical(0))}, "minval": {b, alone(logical(0))},
		"maxloc": {b, alone(logical(0)), zeros(api.KLogical, 2, 2)}, "minloc": {b, alone(logical(0)), zeros(api.KLogical, 2, 2)},
		"sqrt": {n, b, alone(integer(-1))}, "all": {n, r, d, alone(integer(0))}, "any": {n, r, d, alone(integer(0))}, "count": {n, r, d, alone(integer(0))},
	} {
		for _, a := range l {
			checkError(t, name, args(a), api.ErrType)
		}
	}
	for name, l := range map[string][][]api.Array{
		"mod":     {{n, r}, {r, n}, {n, b}, {b, b}, {d, d}, {r, ints(0, 0, 0)}, {ints(1), reals8(0, 0)}},
		"min":     {{n, b}, {b, n}, {b, b}, {b, logicals(1, 0)}, {r, b}, {b, d}},
		"max":     {{n, b}, {b, n}, {b, b}, {b, logicals(1, 0)}, {r, b}, {b, d}},
		"merge":   {{n, n, n}, {n, r, b}, {r, d, b}, {b, n, b}, {n, n, r}, {b, b, d}, {ints(1), reals4(1, 2), logicals(1, 1, 1)}},
		"reshape": {{n, r}, {n, b}, {n, d}, {n, alone(real8(1))}, {n, reals8(-1)}, {n, logicals()}},
		"matmul":  {{n, b}, {b, n}, {zeros(api.KLogical, 2, 2), zeros(api.KInt, 2, 2)}, {zeros(api.KInt, 2, 2), zeros(api.KLogical, 3)}, {alone(logical(1)), n}, {n, zeros(api.KLogical, 1, 1, 1)}},
		"cshift":  {{n, b}, {n, r}, {d, alone(real8(0))}, {alone(integer(1)), b}, {n, reals4(1, 2)}},
		"spread":  {{n, b}, {n, r}, {d, alone(real8(0))}, {n, reals4(-1, 2)}, {n, alone(logical(1))}},
		"pack":    {{n, n}, {n, r}, {alone(integer(1)), n}, {n, reals4(1, 2, 3)}, {d, alone(integer(1))}},
	} {
		for _, two := range l {
			checkError(t, name, two, api.ErrType)
		}
	}
}

// Ranks come ahead of what values say, and of shapes.
func TestCallErrRank(t *testing.T) {
	for _, a := range []api.Array{alone(integer(api.MaxInt)), alone(real4(1)), alone(real8(math.NaN()))} {
		for _, name := range []string{"sum", "product", "maxval", "minval", "maxloc", "minloc"} {
			checkError(t, name, args(a), api.ErrRank)
		}
	}
	for _, name := range []string{"all", "any", "count"} {
		checkError(t, name, args(alone(logical(1))), api.ErrRank)
	}
	for _, a := range []api.Array{alone(integer(1)), alone(logical(1)), alone(real8(1))} {
		checkError(t, "size", args(a), api.ErrRank)
		checkError(t, "pack", args(a, alone(logical(1))), api.ErrRank)
		checkError(t, "pack", args(a, logicals(1, 0)), api.ErrRank)
		checkError(t, "transpose", args(a), api.ErrRank)
		checkError(t, "cshift", args(a, alone(integer(1))), api.ErrRank)
	}
	for _, a := range []api.Array{counted(2, 2), counted(1, 1, 1), zeros(api.KReal8, 0, 0)} {
		checkError(t, "maxloc", args(a), api.ErrRank)
		checkError(t, "minloc", args(a), api.ErrRank)
		checkError(t, "cshift", args(a, alone(integer(1))), api.ErrRank)
		checkError(t, "cshift", args(a, ints(1)), api.ErrRank)
	}
	for _, a := range []api.Array{counted(4), ints(), logicals(1), counted(2, 2, 2), zeros(api.KInt, 0, 0, 0)} {
		checkError(t, "transpose", args(a), api.ErrRank)
	}
	checkError(t, "cshift", args(counted(3), ints(1)), api.ErrRank)
	checkError(t, "spread", args(counted(3), ints(1)), api.ErrRank)
	checkError(t, "spread", args(counted(3), ints(-1)), api.ErrRank)
	checkError(t, "spread", args(counted(1, 1, 1), alone(integer(1))), api.ErrRank)
	checkError(t, "spread", args(counted(1, 1, 1), alone(integer(-1))), api.ErrRank)
}

func TestMatmulErrRank(t *testing.T) {
	l := []api.Array{alone(integer(2)), counted(2), counted(3, 2), counted(2, 2, 2)}
	for i, x := range l {
		for j, y := range l {
			if i+j != 3 && i+j != 4 || i*j == 0 || i == 3 || j == 3 {
				checkError(t, "matmul", args(x, y), api.ErrRank)
			}
		}
	}
}

// What values say is wrong comes ahead of shapes.
func TestCallOfWrongValues(t *testing.T) {
	for _, s := range []api.Array{ints(-1), ints(2, -1), ints(-1, 0), ints(9, 9, -api.MaxInt), ints(4001, -1), ints(), ints(1, 1, 1, 1), ints(-1, 1, 1, 1)} {
		checkError(t, "reshape", args(counted(3), s), api.ErrArg)
	}
	for _, n := range []int{-1, 4001, api.MaxInt, -api.MaxInt} {
		checkError(t, "spread", args(counted(3), alone(integer(n))), api.ErrArg)
		checkError(t, "spread", args(ints(), alone(integer(n))), api.ErrArg)
	}
}

func TestCallErrShape(t *testing.T) {
	for _, name := range []string{"mod", "min", "max"} {
		checkError(t, name, args(counted(2), counted(3)), api.ErrShape)
		checkError(t, name, args(counted(2, 3), counted(3, 2)), api.ErrShape)
		checkError(t, name, args(counted(2), counted(2, 1)), api.ErrShape)
		checkError(t, name, args(ints(1), ints()), api.ErrShape)
	}
	checkError(t, "mod", args(counted(2), zeros(api.KInt, 3)), api.ErrShape)
	one := alone(integer(1))
	for _, l := range [][]api.Array{
		{counted(2), counted(3), alone(logical(1))}, {counted(2), one, logicals(1)}, {one, counted(2), logicals(1)}, {counted(2), counted(2), logicals(1)}, {counted(1), counted(2), logicals(1, 1)},
	} {
		checkError(t, "merge", l, api.ErrShape)
	}
	for _, s := range []api.Array{ints(4), ints(2, 2), ints(3, 1, 2), ints(4001), ints(2000, 3), ints(api.MaxInt, api.MaxInt, api.MaxInt), ints(4001, 0), ints(0, api.MaxInt)} {
		checkError(t, "reshape", args(counted(3), s), api.ErrShape)
	}
	checkError(t, "reshape", args(alone(integer(1)), ints(2)), api.ErrShape)
	checkError(t, "matmul", args(counted(2, 3), counted(2)), api.ErrShape)
	checkError(t, "matmul", args(counted(2, 3), counted(2, 3)), api.ErrShape)
	checkError(t, "matmul", args(counted(2), counted(3, 2)), api.ErrShape)
	checkError(t, "matmul", args(counted(64, 1), counted(1, 63)), api.ErrShape)
	checkError(t, "matmul", args(zeros(api.KInt, 4000, 0), zeros(api.KReal8, 0, 2)), api.ErrShape)
	checkError(t, "spread", args(counted(2), alone(integer(2001))), api.ErrShape)
	checkError(t, "spread", args(counted(2, 1), alone(integer(4000))), api.ErrShape)
	checkError(t, "pack", args(counted(2), logicals(1)), api.ErrShape)
	checkError(t, "pack", args(counted(2, 3), zeros(api.KLogical, 3, 2)), api.ErrShape)
	checkError(t, "pack", args(counted(2), zeros(api.KLogical, 2, 1)), api.ErrShape)
}

// One error: that of the first element.
func TestFirstElement(t *testing.T) {
	checkError(t, "mod", args(ints(1, 2), ints(0, 1)), api.ErrZero)
	checkError(t, "mod", args(ints(1, 2), alone(integer(0))), api.ErrZero)
	checkError(t, "int", args(reals8(1, 2, math.NaN())), api.ErrRange)
	checkError(t, "sum", args(ints(api.MaxInt, 1, -1)), api.ErrRange)
	checkError(t, "sum", args(ints(-api.MaxInt, -1, 1)), api.ErrRange)
	checkError(t, "product", args(ints(1<<16, 1<<15, 0)), api.ErrRange)
	checkError(t, "matmul", args(ints(1<<16, 1), in(api.KInt, []int{2, 1}, 1<<16, 1)), api.ErrRange)
	checkError(t, "matmul", args(ints(api.MaxInt, 1), in(api.KInt, []int{2, 1}, 1, 1)), api.ErrRange)
	checkError(t, "matmul", args(counted(2, 2), ints(-1<<30, -1<<30)), api.ErrRange)
}
