package array

import (
	"math/rand"
	"testing"

	"quadrat/api"
)

// expectedDo is what Do returns of arrays whose kinds suit: by One, element by element.
func expectedDo(op string, a, b api.Array) (api.Array, api.Errno) {
	out := api.Array{Kind: Kind(op, a.Kind, b.Kind), Shape: a.Shape}
	n := len(a.Elems)
	if len(a.Shape) == 0 {
		out.Shape, n = b.Shape, len(b.Elems)
	}
	if len(a.Shape) > 0 && len(b.Shape) > 0 && !equalInts(a.Shape, b.Shape) {
		return api.Array{}, api.ErrShape
	}
	for i := range n {
		x, y := api.Value{Kind: a.Kind, N: at(a, i)}, api.Value{Kind: b.Kind, N: at(b, i)}
		v, err := One(op, x, y)
		if err != api.OK {
			return api.Array{}, err
		}
		out.Elems = append(out.Elems, v.N)
	}
	return out, api.OK
}

func checkDo(t *testing.T, op string, a, b, want api.Array, wanted api.Errno) {
	t.Helper()
	x, err := Do(op, a, b)
	if !equal(x, want) || err != wanted || err == api.OK && !Valid(x) {
		t.Errorf("%v %s %v = %v, %d; want %v, %d", a, op, b, x, err, want, wanted)
	}
}

func TestDo(t *testing.T) {
	checkDo(t, "+", ints(1, 2, 3), ints(10, 20, 30), ints(11, 22, 33), api.OK)
	checkDo(t, "-", ints(1, 2, 3), alone(integer(4)), ints(-3, -2, -1), api.OK)
	checkDo(t, "-", alone(integer(4)), ints(1, 2, 3), ints(3, 2, 1), api.OK)
	checkDo(t, "*", alone(integer(4)), alone(integer(5)), alone(integer(20)), api.OK)
	checkDo(t, "/", ints(7, -7), reals8(2, 2), reals8(3.5, -3.5), api.OK)
	checkDo(t, "<", counted(2, 2), alone(integer(3)), in(api.KLogical, []int{2, 2}, 1, 1, 0, 0), api.OK)
	checkDo(t, ".and.", logicals(0, 1, 1), logicals(1, 0, 1), logicals(0, 0, 1), api.OK)
	checkDo(t, "+", counted(2, 2, 2), zeros(api.KReal4, 2, 2, 2), in(api.KReal4, []int{2, 2, 2}, reals4(1, 2, 3, 4, 5, 6, 7, 8).Elems...), api.OK)
	checkDo(t, "*", ints(3), alone(integer(2)), ints(6), api.OK)
}

// Of no elements nothing can be wrong but for kinds and shapes.
func TestDoOfNone(t *testing.T) {
	checkDo(t, "/", ints(), ints(), ints(), api.OK)
	checkDo(t, "/", ints(), alone(integer(0)), ints(), api.OK)
	checkDo(t, "+", alone(real8(1)), zeros(api.KInt, 3, 0), zeros(api.KReal8, 3, 0), api.OK)
	checkDo(t, "==", zeros(api.KInt, 0, 3), zeros(api.KReal4, 0, 3), zeros(api.KLogical, 0, 3), api.OK)
	checkDo(t, "+", zeros(api.KInt, 0, 3), zeros(api.KInt, 3, 0), api.Array{}, api.ErrShape)
	checkDo(t, "+", ints(), ints(1), api.Array{}, api.ErrShape)
	checkDo(t, "+", ints(), logicals(), api.Array{}, api.ErrType)
}

func TestDoOfSome(t *testing.T) {
	r := rand.New(rand.NewSource(1))
	for range 4000 {
		shape := someShape(r, r.Intn(4))
		a := someOf(r, samples(1+r.Intn(4)), shape...)
		switch r.Intn(4) {
		case 0:
			shape = nil
		case 1:
			shape = someShape(r, r.Intn(4))
		}
		b := someOf(r, samples(1+r.Intn(4)), shape...)
		if r.Intn(2) == 0 {
			a, b = b, a
		}
		op := operators()[r.Intn(12)]
		if Kind(op, a.Kind, b.Kind) == 0 {
			checkDo(t, op, a, b, api.Array{}, api.ErrType)
			continue
		}
		want, wanted := expectedDo(op, a, b)
		checkDo(t, op, a, b, want, wanted)
	}
}

// The first element's error is the error.
func TestDoFirstError(t *testing.T) {
	checkDo(t, "/", ints(1, 2, 3), ints(1, 0, 1), api.Array{}, api.ErrZero)
	checkDo(t, "*", ints(1, api.MaxInt, api.MaxInt), ints(9, 1, 2), api.Array{}, api.ErrRange)
	checkDo(t, "+", counted(3, 2), alone(integer(api.MaxInt-5)), api.Array{}, api.ErrRange)
	checkDo(t, "+", counted(3, 2), alone(integer(api.MaxInt-6)), in(api.KInt, []int{3, 2}, api.MaxInt-5, api.MaxInt-4, api.MaxInt-3, api.MaxInt-2, api.MaxInt-1, api.MaxInt), api.OK)
}

func TestDoErrors(t *testing.T) {
	for _, op := range append(operators(), noOperators()...) {
		for _, a := range noArrays() {
			for _, b := range append(noArrays(), ints(1, 2), logicals(1), alone(integer(0))) {
				checkDo(t, op, a, b, api.Array{}, api.ErrArg)
				checkDo(t, op, b, a, api.Array{}, api.ErrArg)
			}
		}
	}
	checkDo(t, "+", logicals(1, 0), logicals(1), api.Array{}, api.ErrType)
	checkDo(t, "/", ints(1, 1), ints(0), api.Array{}, api.ErrShape)
	checkDo(t, "+", counted(2, 3), counted(3, 2), api.Array{}, api.ErrShape)
	checkDo(t, "+", counted(6), counted(6, 1), api.Array{}, api.ErrShape)
	checkDo(t, "+", counted(1), counted(3), api.Array{}, api.ErrShape)
}

func TestSingle(t *testing.T) {
	r := rand.New(rand.NewSource(2))
	for range 1000 {
		a := someOf(r, samples(1+r.Intn(4)), someShape(r, r.Intn(4))...)
		for _, op := range []string{"+", "-", ".not."} {
			want, wanted := api.Array{Kind: a.Kind, Shape: a.Shape}, api.OK
			for _, e := range a.Elems {
				v, _ := Only(op, api.Value{Kind: a.Kind, N: e})
				want.Elems = append(want.Elems, v.N)
			}
			if Kind(op, a.Kind, 0) == 0 {
				want, wanted = api.Array{}, api.ErrType
			}
			if x, err := Single(op, a); !equal(x, want) || err != wanted {
				t.Errorf("%s %v = %v, %d", op, a, x, err)
			}
		}
	}
	for _, op := range append(noOperators(), "+", "-") {
		for _, a := range noArrays() {
			if x, err := Single(op, a); !isNothing(x) || err != api.ErrArg {
				t.Errorf("%s %v = %v, %d", op, a, x, err)
			}
		}
	}
}

func TestConvert(t *testing.T) {
	r := rand.New(rand.NewSource(3))
	for range 2000 {
		a := someOf(r, samples(1+r.Intn(4)), someShape(r, r.Intn(4))...)
		kind := 1 + r.Intn(4)
		want, wanted := api.Array{Kind: kind, Shape: a.Shape}, api.OK
		for _, e := range a.Elems {
			v, err := To(kind, api.Value{Kind: a.Kind, N: e})
			if err != api.OK {
				want, wanted = api.Array{}, err
				break
			}
			want.Elems = append(want.Elems, v.N)
		}
		if kind != a.Kind && (kind == api.KLogical || a.Kind == api.KLogical) {
			want, wanted = api.Array{}, api.ErrType
		}
		if x, err := Convert(kind, a); !equal(x, want) || err != wanted {
			t.Errorf("Convert(%d, %v) = %v, %d; want %v, %d", kind, a, x, err, want, wanted)
		}
	}
}

func TestConvertErrors(t *testing.T) {
	for _, kind := range []int{0, 5, -1, 8} {
		for _, a := range []api.Array{ints(1), logicals(), reals8(1)} {
			if x, err := Convert(kind, a); !isNothing(x) || err != api.ErrArg {
				t.Errorf("Convert(%d, %v) = %v, %d", kind, a, x, err)
			}
		}
	}
	for kind := range 6 {
		for _, a := range noArrays() {
			if x, err := Convert(kind, a); !isNothing(x) || err != api.ErrArg {
				t.Errorf("Convert(%d, %v) = %v, %d", kind, a, x, err)
			}
		}
	}
	if x, err := Convert(api.KInt, logicals()); !isNothing(x) || err != api.ErrType {
		t.Errorf("%v, %d", x, err)
	}
	if x, err := Convert(api.KInt, reals8(1, 2, 1e10, 3)); !isNothing(x) || err != api.ErrRange {
		t.Errorf("%v, %d", x, err)
	}
}
