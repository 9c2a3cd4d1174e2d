package array

import (
	"math"
	"testing"

	"quadrat/api"
)

func TestNames(t *testing.T) {
	want := split("abs all any count cshift dble int matmul max maxloc maxval merge min minloc minval mod pack product real reshape shape size spread sqrt sum transpose")
	l := Names()
	if len(l) != len(want) {
		t.Fatalf("%v", l)
	}
	counts := map[string]int{"merge": 3, "mod": 2, "min": 2, "max": 2, "reshape": 2, "matmul": 2, "cshift": 2, "spread": 2, "pack": 2}
	for i, name := range l {
		if name != want[i] {
			t.Errorf("%s, not %s", name, want[i])
		}
		if least, most := Arity(name); least != max(1, counts[name]) || most != least {
			t.Errorf("%s has %d to %d arguments", name, least, most)
		}
	}
}

func TestAbs(t *testing.T) {
	checkCall(t, "abs", args(ints(-5, 0, 5, -api.MaxInt)), ints(5, 0, 5, api.MaxInt))
	checkCall(t, "abs", args(alone(integer(-1))), alone(integer(1)))
	checkCall(t, "abs", args(reals4(-1.5, math.Copysign(0, -1), math.Inf(-1))), reals4(1.5, 0, math.Inf(1)))
	checkCall(t, "abs", args(in(api.KReal8, []int{1, 2}, -1, real8(-2).N)), in(api.KReal8, []int{1, 2}, quiet8, real8(2).N))
	checkCall(t, "abs", args(zeros(api.KInt, 2, 0)), zeros(api.KInt, 2, 0))
}

func TestKindsByFunctions(t *testing.T) {
	checkCall(t, "int", args(reals8(1.9, -1.9, 0.5)), ints(1, -1, 0))
	checkCall(t, "int", args(alone(real4(-3.5))), alone(integer(-3)))
	checkCall(t, "int", args(counted(2, 2)), counted(2, 2))
	checkCall(t, "real", args(ints(1, 1<<24+1)), reals4(1, 1<<24))
	checkCall(t, "real", args(reals8(0.1, 1e300)), reals4(0.1, math.Inf(1)))
	checkCall(t, "dble", args(reals4(0.1)), reals8(float64(float32(0.1))))
	checkCall(t, "dble", args(alone(integer(api.MaxInt))), alone(real8(api.MaxInt)))
}

func TestMod(t *testing.T) {
	checkCall(t, "mod", args(ints(7, -7, 7, -7, 6, 0), ints(3, 3, -3, -3, 3, 3)), ints(1, -1, 1, -1, 0, 0))
	checkCall(t, "mod", args(alone(integer(api.MaxInt)), ints(2, -1, api.MaxInt)), ints(1, 0, 0))
	checkCall(t, "mod", args(counted(2, 2), alone(integer(2))), in(api.KInt, []int{2, 2}, 1, 0, 1, 0))
	checkCall(t, "mod", args(ints(), alone(integer(0))), ints())
}

func TestMinMax(t *testing.T) {
	checkCall(t, "min", args(ints(1, 5, -2), alone(integer(3))), ints(1, 3, -2))
	checkCall(t, "max", args(alone(integer(3)), ints(1, 5, -2)), ints(3, 5, 3))
	checkCall(t, "min", args(ints(1, 5), reals8(1.5, 4.5)), reals8(1, 4.5))
	checkCall(t, "max", args(reals4(0.5), ints(1<<24+1)), reals4(1<<24))
	checkCall(t, "max", args(reals4(0.1), reals8(0.1)), reals8(float64(float32(0.1))))
	checkCall(t, "max", args(reals8(math.Inf(-1)), reals8(math.Inf(1))), reals8(math.Inf(1)))
}

// Of equal ones, and with no numbers, it is the first one.
func TestMinMaxFirst(t *testing.T) {
	zero, minus := real8(0), real8(math.Copysign(0, -1))
	for _, name := range []string{"min", "max"} {
		for _, c := range []struct{ a, b, want api.Value }{
			{zero, minus, zero}, {minus, zero, minus}, {bits8(quiet8), real8(1), bits8(quiet8)}, {real8(1), bits8(quiet8), real8(1)}, {bits4(quiet4), integer(1), bits4(quiet4)}, {integer(1), bits4(quiet4), real4(1)},
		} {
			checkCall(t, name, args(alone(c.a), alone(c.b)), alone(c.want))
		}
	}
}

func TestSqrt(t *testing.T) {
	checkCall(t, "sqrt", args(reals8(4, 2, 0, math.Copysign(0, -1), math.Inf(1))), reals8(2, math.Sqrt2, 0, math.Copysign(0, -1), math.Inf(1)))
	checkCall(t, "sqrt", args(reals8(-1, math.Inf(-1))), in(api.KReal8, []int{2}, quiet8, quiet8))
	checkCall(t, "sqrt", args(alone(real4(2))), alone(real4(float64(float32(math.Sqrt2)))))
	checkCall(t, "sqrt", args(in(api.KReal4, []int{1, 1}, 0xffc00001)), in(api.KReal4, []int{1, 1}, quiet4))
}

func TestMerge(t *testing.T) {
	a, b, m := ints(1, 2, 3), ints(7, 8, 9), logicals(1, 0, 1)
	checkCall(t, "merge", args(a, b, m), ints(1, 8, 3))
	checkCall(t, "merge", args(a, alone(integer(0)), m), ints(1, 0, 3))
	checkCall(t, "merge", args(alone(integer(0)), b, m), ints(0, 8, 0))
	checkCall(t, "merge", args(alone(integer(0)), alone(integer(5)), m), ints(0, 5, 0))
	checkCall(t, "merge", args(a, b, alone(logical(1))), a)
	checkCall(t, "merge", args(a, b, alone(logical(0))), b)
	checkCall(t, "merge", args(alone(real4(1)), alone(real4(2)), alone(logical(0))), alone(real4(2)))
	checkCall(t, "merge", args(m, alone(logical(0)), m), m)
	checkCall(t, "merge", args(alone(integer(1)), counted(2, 2), in(api.KLogical, []int{2, 2}, 0, 0, 1, 0)), in(api.KInt, []int{2, 2}, 1, 2, 1, 4))
	checkCall(t, "merge", args(zeros(api.KReal8, 0), alone(real8(1)), alone(logical(1))), reals8())
}

func TestSumProduct(t *testing.T) {
	checkCall(t, "sum", args(counted(2, 3)), alone(integer(21)))
	checkCall(t, "product", args(counted(2, 3)), alone(integer(720)))
	checkCall(t, "sum", args(ints()), alone(integer(0)))
	checkCall(t, "product", args(zeros(api.KInt, 3, 0, 2)), alone(integer(1)))
	checkCall(t, "sum", args(reals4()), alone(real4(0)))
	checkCall(t, "product", args(reals4()), alone(real4(1)))
	checkCall(t, "product", args(reals8()), alone(real8(1)))
	checkCall(t, "sum", args(ints(api.MaxInt, -1, 1)), alone(integer(api.MaxInt)))
	checkCall(t, "product", args(ints(0, api.MaxInt, api.MaxInt)), alone(integer(0)))
	checkCall(t, "sum", args(reals8(math.Copysign(0, -1))), alone(real8(0)))
	checkCall(t, "product", args(reals8(math.Copysign(0, -1), 2)), alone(real8(math.Copysign(0, -1))))
}

// Each step is rounded, in order.
func TestSumInOrder(t *testing.T) {
	checkCall(t, "sum", args(reals8(1e16, 1, -1e16)), alone(real8(0)))
	checkCall(t, "sum", args(reals8(1e16, -1e16, 1)), alone(real8(1)))
	checkCall(t, "sum", args(reals8(0.1, 0.2, 0.3)), alone(real8(0.6000000000000001)))
	checkCall(t, "sum", args(reals4(1<<24, 1, 1)), alone(real4(1<<24)))
	checkCall(t, "sum", args(reals4(1, 1, 1<<24)), alone(real4(1<<24+2)))
	checkCall(t, "product", args(reals8(1e200, 1e200, 1e-300)), alone(real8(math.Inf(1))))
	checkCall(t, "product", args(reals8(1e200, 1e-300, 1e200)), alone(real8(1e200*1e-300*1e200)))
	checkCall(t, "sum", args(reals8(math.Inf(1), math.Inf(-1))), alone(bits8(quiet8)))
}

func TestMaxvalMinval(t *testing.T) {
	checkCall(t, "maxval", args(counted(2, 3)), alone(integer(6)))
	checkCall(t, "minval", args(ints(3, -7, 2)), alone(integer(-7)))
	checkCall(t, "maxval", args(ints(-3)), alone(integer(-3)))
	checkCall(t, "maxval", args(ints()), alone(integer(-api.MaxInt)))
	checkCall(t, "minval", args(zeros(api.KInt, 0, 4)), alone(integer(api.MaxInt)))
	checkCall(t, "maxval", args(reals4()), alone(real4(math.Inf(-1))))
	checkCall(t, "minval", args(reals4()), alone(real4(math.Inf(1))))
	checkCall(t, "maxval", args(reals8()), alone(real8(math.Inf(-1))))
	checkCall(t, "minval", args(reals8()), alone(real8(math.Inf(1))))
	checkCall(t, "maxval", args(reals8(math.Inf(-1))), alone(real8(math.Inf(-1))))
	checkCall(t, "maxval", args(reals4(1.5, -2, 7.25)), alone(real4(7.25)))
}

// They step from the first element on: no number stays where it is the first one, and is passed over elsewhere; of equal ones the first one stays.
func TestExtremesFirst(t *testing.T) {
	none, minus := math.Float64frombits(quiet8), math.Copysign(0, -1)
	for _, c := range []struct {
		x                         []float64
		least, greatest           float64
		leastPlace, greatestPlace int
	}{
		{[]float64{none, 1, 2}, none, none, 1, 1},
		{[]float64{1, none, 2}, 1, 2, 1, 3},
		{[]float64{2, none, 1, none}, 1, 2, 3, 1},
		{[]float64{0, minus}, 0, 0, 1, 1},
		{[]float64{minus, 0}, minus, minus, 1, 1},
		{[]float64{1, 0, minus, 0}, 0, 1, 2, 1},
		{[]float64{5, 5}, 5, 5, 1, 1},
		{[]float64{1, math.Inf(1), math.Inf(-1), math.Inf(1)}, math.Inf(-1), math.Inf(1), 3, 2},
	} {
		checkCall(t, "minval", args(reals8(c.x...)), alone(asKind(api.KReal8, c.least)))
		checkCall(t, "maxval", args(reals8(c.x...)), alone(asKind(api.KReal8, c.greatest)))
		checkCall(t, "minloc", args(reals8(c.x...)), alone(integer(c.leastPlace)))
		checkCall(t, "maxloc", args(reals8(c.x...)), alone(integer(c.greatestPlace)))
		checkCall(t, "minval", args(reals4(c.x...)), alone(asKind(api.KReal4, c.least)))
		checkCall(t, "maxloc", args(reals4(c.x...)), alone(integer(c.greatestPlace)))
	}
}

func TestAllAnyCount(t *testing.T) {
	for _, c := range []struct {
		x               api.Array
		all, any, count int
	}{
		{logicals(), 1, 0, 0}, {logicals(1), 1, 1, 1}, {logicals(0), 0, 0, 0}, {logicals(1, 0, 1), 0, 1, 2}, {logicals(1, 1, 1), 1, 1, 3}, {logicals(0, 0), 0, 0, 0},
		{logicals(0, 1), 0, 1, 1}, {in(api.KLogical, []int{2, 2}, 1, 1, 1, 0), 0, 1, 3}, {zeros(api.KLogical, 0, 3), 1, 0, 0}, {zeros(api.KLogical, 4000), 0, 0, 0},
	} {
		checkCall(t, "all", args(c.x), alone(logical(c.all)))
		checkCall(t, "any", args(c.x), alone(logical(c.any)))
		checkCall(t, "count", args(c.x), alone(integer(c.count)))
	}
}

func TestSizeShape(t *testing.T) {
	for kind := api.KInt; kind <= api.KReal8; kind++ {
		for _, shape := range [][]int{{0}, {5}, {2, 3}, {0, 4000}, {4, 0, 2}, {2, 3, 4}, {4000}} {
			x := zeros(kind, shape...)
			checkCall(t, "size", args(x), alone(integer(len(x.Elems))))
			checkCall(t, "shape", args(x), ints(shape...))
		}
		checkCall(t, "shape", args(zeros(kind)), ints())
	}
}

func TestMaxlocMinloc(t *testing.T) {
	checkCall(t, "maxloc", args(ints(3, 7, 7, 1)), alone(integer(2)))
	checkCall(t, "minloc", args(ints(3, 1, 7, 1)), alone(integer(2)))
	checkCall(t, "maxloc", args(ints(9)), alone(integer(1)))
	checkCall(t, "minloc", args(ints(3, 2, 1)), alone(integer(3)))
	checkCall(t, "maxloc", args(ints()), alone(integer(0)))
	checkCall(t, "minloc", args(reals8()), alone(integer(0)))
}

func TestReshape(t *testing.T) {
	checkCall(t, "reshape", args(counted(2, 3), ints(3, 1)), counted(3, 1))
	checkCall(t, "reshape", args(counted(6), ints(1, 2, 3)), counted(1, 2, 3))
	checkCall(t, "reshape", args(counted(2, 3), ints(6)), counted(6))
	checkCall(t, "reshape", args(alone(real8(7)), ints(1)), reals8(7))
	checkCall(t, "reshape", args(logicals(1, 0, 1), ints(2)), logicals(1, 0))
	checkCall(t, "reshape", args(counted(3), ints(0)), ints())
	checkCall(t, "reshape", args(ints(), ints(4000, 0, 4000)), zeros(api.KInt, 4000, 0, 4000))
	checkCall(t, "reshape", args(counted(4000), ints(20, 20, 10)), counted(20, 20, 10))
	checkCall(t, "reshape", args(in(api.KReal8, []int{1}, -1), ints(1, 1)), in(api.KReal8, []int{1, 1}, -1))
}

func TestTranspose(t *testing.T) {
	checkCall(t, "transpose", args(counted(2, 3)), in(api.KInt, []int{3, 2}, 1, 3, 5, 2, 4, 6))
	checkCall(t, "transpose", args(counted(1, 4)), counted(4, 1))
	checkCall(t, "transpose", args(zeros(api.KReal4, 0, 5)), zeros(api.KReal4, 5, 0))
	checkCall(t, "transpose", args(in(api.KLogical, []int{2, 2}, 0, 1, 0, 0)), in(api.KLogical, []int{2, 2}, 0, 0, 1, 0))
}

func TestMatmul(t *testing.T) {
	checkCall(t, "matmul", args(counted(2, 2), ints(10, 100)), ints(310, 420))
	checkCall(t, "matmul", args(ints(10, 100), counted(2, 2)), ints(210, 430))
	checkCall(t, "matmul", args(counted(2, 3), counted(3, 2)), in(api.KInt, []int{2, 2}, 22, 28, 49, 64))
	checkCall(t, "matmul", args(counted(3, 1), counted(1, 2)), in(api.KInt, []int{3, 2}, 1, 2, 3, 2, 4, 6))
	checkCall(t, "matmul", args(counted(1, 3), counted(3)), ints(14))
	checkCall(t, "matmul", args(zeros(api.KInt, 2, 0), zeros(api.KReal4, 0, 3)), zeros(api.KReal4, 2, 3))
	checkCall(t, "matmul", args(ints(), zeros(api.KInt, 0, 2)), ints(0, 0))
	checkCall(t, "matmul", args(zeros(api.KInt, 0, 2), counted(2, 3)), zeros(api.KInt, 0, 3))
	checkCall(t, "matmul", args(zeros(api.KInt, 2, 0), ints()), ints(0, 0))
	checkCall(t, "matmul", args(counted(63, 1), counted(1, 63)), outer(63, 63))
	checkCall(t, "matmul", args(ints(1<<24+1), in(api.KReal4, []int{1, 1}, real4(1).N)), reals4(1<<24))
	checkCall(t, "matmul", args(in(api.KReal4, []int{1, 1}, real4(0.1).N), reals8(1)), reals8(float64(float32(0.1))))
}

// The products are added in order, from 0 on, each step rounded.
func TestMatmulInOrder(t *testing.T) {
	row := in(api.KReal8, []int{1, 3}, reals8(1e16, 1, -1e16).Elems...)
	checkCall(t, "matmul", args(row, reals8(1, 1, 1)), reals8(0))
	checkCall(t, "matmul", args(row, reals8(1, 1, 0.5)), reals8(5e15))
	checkCall(t, "matmul", args(row, reals8(0, 1, 0)), reals8(1))
	minus := in(api.KReal8, []int{1, 1}, real8(math.Copysign(0, -1)).N)
	checkCall(t, "matmul", args(minus, reals8(1)), reals8(0))
	checkCall(t, "matmul", args(in(api.KInt, []int{1, 3}, api.MaxInt, -1, 1), ints(1, 1, 1)), ints(api.MaxInt))
}

// outer is the product of 1 to rows and 1 to columns.
func outer(rows, columns int) api.Array {
	a := zeros(api.KInt, rows, columns)
	for j := range columns {
		for i := range rows {
			a.Elems[i+j*rows] = (i + 1) * (j + 1)
		}
	}
	return a
}

func TestCshift(t *testing.T) {
	for n, want := range map[int]api.Array{
		0: ints(1, 2, 3), 1: ints(2, 3, 1), 2: ints(3, 1, 2), 3: ints(1, 2, 3), 4: ints(2, 3, 1), -1: ints(3, 1, 2), -2: ints(2, 3, 1), -3: ints(1, 2, 3), -4: ints(3, 1, 2),
		api.MaxInt: ints(2, 3, 1), -api.MaxInt: ints(3, 1, 2),
	} {
		checkCall(t, "cshift", args(ints(1, 2, 3), alone(integer(n))), want)
	}
	checkCall(t, "cshift", args(ints(), alone(integer(5))), ints())
	checkCall(t, "cshift", args(logicals(1, 0), alone(integer(-1))), logicals(0, 1))
	checkCall(t, "cshift", args(reals8(7), alone(integer(-5))), reals8(7))
}

func TestSpread(t *testing.T) {
	checkCall(t, "spread", args(alone(real4(2)), alone(integer(3))), reals4(2, 2, 2))
	checkCall(t, "spread", args(ints(1, 2), alone(integer(3))), in(api.KInt, []int{2, 3}, 1, 2, 1, 2, 1, 2))
	checkCall(t, "spread", args(counted(2, 2), alone(integer(2))), in(api.KInt, []int{2, 2, 2}, 1, 2, 3, 4, 1, 2, 3, 4))
	checkCall(t, "spread", args(alone(logical(1)), alone(integer(0))), logicals())
	checkCall(t, "spread", args(ints(1, 2), alone(integer(0))), zeros(api.KInt, 2, 0))
	checkCall(t, "spread", args(ints(), alone(integer(4000))), zeros(api.KInt, 0, 4000))
	checkCall(t, "spread", args(zeros(api.KInt, 4000, 0), alone(integer(4000))), zeros(api.KInt, 4000, 0, 4000))
	checkCall(t, "spread", args(alone(integer(0)), alone(integer(4000))), zeros(api.KInt, 4000))
	checkCall(t, "spread", args(zeros(api.KReal8, 2), alone(integer(2000))), zeros(api.KReal8, 2, 2000))
}

func TestPack(t *testing.T) {
	checkCall(t, "pack", args(ints(4, 5, 6), logicals(1, 0, 1)), ints(4, 6))
	checkCall(t, "pack", args(counted(2, 2), in(api.KLogical, []int{2, 2}, 0, 1, 1, 0)), ints(2, 3))
	checkCall(t, "pack", args(counted(2, 2), alone(logical(1))), counted(4))
	checkCall(t, "pack", args(counted(2, 2), alone(logical(0))), ints())
	checkCall(t, "pack", args(reals8(), logicals()), reals8())
	checkCall(t, "pack", args(zeros(api.KLogical, 2, 0, 2), alone(logical(1))), logicals())
	checkCall(t, "pack", args(counted(1, 1, 3), in(api.KLogical, []int{1, 1, 3}, 1, 1, 0)), ints(1, 2))
}
