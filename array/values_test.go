package array

import (
	"math"
	"testing"

	"quadrat/api"
)

func TestIsValue(t *testing.T) {
	for _, v := range append(allSamples(), bits4(0), bits4(1<<32-1), bits8(math.MaxInt), bits8(math.MinInt), bits8(0)) {
		if !IsValue(v) {
			t.Errorf("%v is no value", v)
		}
	}
	for _, v := range noValues() {
		if IsValue(v) {
			t.Errorf("%v is a value", v)
		}
	}
}

func TestValid(t *testing.T) {
	for _, a := range []api.Array{
		alone(integer(-api.MaxInt)), alone(logical(1)), alone(bits4(1<<32 - 1)), alone(bits8(-1)), {Kind: api.KInt, Shape: []int{}, Elems: []int{7}},
		ints(), {Kind: api.KReal8, Shape: []int{0}}, {Kind: api.KInt, Shape: []int{4000, 0, 4000}}, {Kind: api.KInt, Shape: []int{4000, 4000, 0}},
		zeros(api.KLogical, 4000), zeros(api.KReal4, 1, 4000, 1), zeros(api.KInt, 20, 20, 10), counted(2, 3), counted(1, 1, 1), ints(api.MaxInt, -api.MaxInt), logicals(0, 1),
	} {
		if !Valid(a) {
			t.Errorf("an array of kind %d and shape %v is not valid", a.Kind, a.Shape)
		}
	}
	for _, a := range noArrays() {
		if Valid(a) {
			t.Errorf("an array of kind %d, shape %v and %d elements is valid", a.Kind, a.Shape, len(a.Elems))
		}
	}
}

func TestScalar(t *testing.T) {
	for _, v := range allSamples() {
		if a, err := Scalar(v); !equal(a, alone(v)) || err != api.OK || !Valid(a) {
			t.Errorf("Scalar(%v) = %v, %d", v, a, err)
		}
	}
	for _, v := range noValues() {
		if a, err := Scalar(v); !isNothing(a) || err != api.ErrArg {
			t.Errorf("Scalar(%v) = %v, %d", v, a, err)
		}
	}
}

func TestShow(t *testing.T) {
	for _, c := range []struct {
		v    api.Value
		want string
	}{
		{integer(0), "0"}, {integer(-12), "-12"}, {integer(api.MaxInt), "2147483647"}, {integer(-api.MaxInt), "-2147483647"},
		{logical(0), "F"}, {logical(1), "T"},
		{real4(0.1), "0.1"}, {real8(0.1), "0.1"}, {real8(0.30000000000000004), "0.30000000000000004"}, {real4(1.0 / 3), "0.33333334"}, {real8(-2), "-2.0"},
		{real8(math.Inf(-1)), "-inf"}, {real4(math.Inf(1)), "inf"}, {bits8(-1), "nan"}, {bits4(quiet4), "nan"}, {real8(math.Copysign(0, -1)), "-0.0"},
	} {
		if s, err := Show(c.v); s != c.want || err != api.OK {
			t.Errorf("Show(%v) = %q, %d; want %q", c.v, s, err, c.want)
		}
	}
	for _, v := range noValues() {
		if s, err := Show(v); s != "" || err != api.ErrArg {
			t.Errorf("Show(%v) = %q, %d", v, s, err)
		}
	}
}

func TestSame(t *testing.T) {
	for _, c := range []struct {
		a, b api.Array
		want bool
	}{
		{ints(1, 2), ints(1, 2), true}, {ints(1, 2), ints(1, 3), false}, {ints(1, 2), ints(1), false}, {ints(1), ints(1, 2), false},
		{ints(), ints(), true}, {ints(), api.Array{Kind: api.KInt, Shape: []int{0}}, true}, {ints(), zeros(api.KInt, 0, 2), false}, {zeros(api.KInt, 0, 2), zeros(api.KInt, 2, 0), false},
		{ints(1), logicals(1), false}, {ints(), reals4(), false}, {in(api.KReal4, []int{1}, 5), in(api.KReal8, []int{1}, 5), false},
		{ints(1), alone(integer(1)), false}, {alone(integer(1)), api.Array{Kind: api.KInt, Shape: []int{}, Elems: []int{1}}, true},
		{counted(2, 3), counted(3, 2), false}, {counted(6), counted(2, 3), false}, {counted(2, 3), counted(2, 3), true},
		{reals8(0), reals8(math.Copysign(0, -1)), false}, {in(api.KReal8, []int{1}, -1), in(api.KReal8, []int{1}, -1), true}, {in(api.KReal8, []int{1}, -1), in(api.KReal8, []int{1}, quiet8), false},
	} {
		if Same(c.a, c.b) != c.want {
			t.Errorf("Same(%v, %v) is %v", c.a, c.b, !c.want)
		}
	}
}
