package array

import (
	"math"
	"math/rand"
	"testing"

	"quadrat/api"
)

// quiet4 and quiet8 are the quiet ones.
const (
	quiet4 = 0x7fc00000
	quiet8 = 0x7ff8000000000000
)

func integer(n int) api.Value {
	return api.Value{Kind: api.KInt, N: n}
}

func logical(n int) api.Value {
	return api.Value{Kind: api.KLogical, N: n}
}

func real4(x float64) api.Value {
	return api.Value{Kind: api.KReal4, N: int(math.Float32bits(float32(x)))}
}

func real8(x float64) api.Value {
	return api.Value{Kind: api.KReal8, N: int(math.Float64bits(x))}
}

func bits4(n int) api.Value {
	return api.Value{Kind: api.KReal4, N: n}
}

func bits8(n int) api.Value {
	return api.Value{Kind: api.KReal8, N: n}
}

// of makes an array of rank 1 of values of one kind.
func of(kind int, l ...api.Value) api.Array {
	a := api.Array{Kind: kind, Shape: []int{len(l)}, Elems: []int{}}
	for _, v := range l {
		if v.Kind != kind {
			panic("kinds differ")
		}
		a.Elems = append(a.Elems, v.N)
	}
	return a
}

func ints(l ...int) api.Array {
	return in(api.KInt, []int{len(l)}, l...)
}

func logicals(l ...int) api.Array {
	return in(api.KLogical, []int{len(l)}, l...)
}

func reals4(l ...float64) api.Array {
	a := in(api.KReal4, []int{len(l)})
	for _, x := range l {
		a.Elems = append(a.Elems, real4(x).N)
	}
	return a
}

func reals8(l ...float64) api.Array {
	a := in(api.KReal8, []int{len(l)})
	for _, x := range l {
		a.Elems = append(a.Elems, real8(x).N)
	}
	return a
}

// in makes an array of a shape.
func in(kind int, shape []int, l ...int) api.Array {
	return api.Array{Kind: kind, Shape: append([]int{}, shape...), Elems: append([]int{}, l...)}
}

// alone makes a scalar of a value.
func alone(v api.Value) api.Array {
	return api.Array{Kind: v.Kind, Elems: []int{v.N}}
}

// zeros makes an array of a shape whose elements are 0.
func zeros(kind int, shape ...int) api.Array {
	n := 1
	for _, e := range shape {
		n *= e
	}
	return in(kind, shape, make([]int, n)...)
}

// counted makes an array of a shape whose elements are 1, 2, ...
func counted(shape ...int) api.Array {
	a := zeros(api.KInt, shape...)
	for i := range a.Elems {
		a.Elems[i] = i + 1
	}
	return a
}

func args(l ...api.Array) []api.Array {
	return l
}

func equalInts(a, b []int) bool {
	if len(a) != len(b) {
		return false
	}
	for i := range a {
		if a[i] != b[i] {
			return false
		}
	}
	return true
}

// equal holds arrays against each other without a function of the package.
func equal(a, b api.Array) bool {
	return a.Kind == b.Kind && equalInts(a.Shape, b.Shape) && equalInts(a.Elems, b.Elems)
}

func isNothing(a api.Array) bool {
	return equal(a, api.Array{})
}

// checkCall fails, if a function returns another array, or an error.
func checkCall(t *testing.T, name string, l []api.Array, want api.Array) {
	t.Helper()
	a, err := Call(name, l)
	if !equal(a, want) || err != api.OK || !Valid(a) {
		t.Errorf("%s%v = %v, %d; want %v", name, l, a, err, want)
	}
}

// checkError fails, if a function returns something, or another error.
func checkError(t *testing.T, name string, l []api.Array, want api.Errno) {
	t.Helper()
	if a, err := Call(name, l); !isNothing(a) || err != want {
		t.Errorf("%s%v = %v, %d; want error %d", name, l, a, err, want)
	}
}

// samples are values of a kind that are near where something changes.
func samples(kind int) (l []api.Value) {
	switch kind {
	case api.KInt:
		for _, n := range []int{0, 1, -1, 2, -2, 3, 7, -7, 46340, 46341, -46341, 1<<24 + 1, 1 << 30, -1 << 30, api.MaxInt - 1, api.MaxInt, -api.MaxInt} {
			l = append(l, integer(n))
		}
	case api.KLogical:
		l = append(l, logical(0), logical(1))
	case api.KReal4:
		for _, x := range floatSamples() {
			l = append(l, real4(x))
		}
		l = append(l, bits4(1), bits4(0x7fa00001), bits4(0xffc00000), bits4(0xffffffff))
	case api.KReal8:
		for _, x := range floatSamples() {
			l = append(l, real8(x))
		}
		l = append(l, bits8(1), bits8(0x7ff0000000000001), bits8(-1), bits8(-1<<51))
	}
	return l
}

func floatSamples() []float64 {
	l := []float64{0, 0.1, 0.5, 0.75, 1, 1.5, 2, 3, 7.99, 1 << 24, 1<<24 + 2, 2147483520, api.MaxInt - 0.5, api.MaxInt, api.MaxInt + 0.5, 1 << 31, 1e10, 1e19, 1e38, math.MaxFloat32, 1e300, math.MaxFloat64, 1e-40, 1e-310, math.Inf(1)}
	for _, x := range l {
		l = append(l, math.Copysign(x, -1))
	}
	return append(l, math.NaN())
}

func allSamples() (l []api.Value) {
	for kind := api.KInt; kind <= api.KReal8; kind++ {
		l = append(l, samples(kind)...)
	}
	return l
}

// someOf makes an array of a shape with elements out of a list.
func someOf(r *rand.Rand, l []api.Value, shape ...int) api.Array {
	a := zeros(l[0].Kind, shape...)
	for i := range a.Elems {
		a.Elems[i] = l[r.Intn(len(l))].N
	}
	return a
}

// someShape makes a shape of a rank; now and then an extent is 0.
func someShape(r *rand.Rand, rank int) []int {
	l := make([]int, rank)
	for i := range l {
		l[i] = r.Intn(6)
	}
	return l
}

// noArrays are arrays that are not valid.
func noArrays() []api.Array {
	return []api.Array{
		{}, {Kind: api.KInt}, {Kind: 0, Elems: []int{1}}, {Kind: 5, Elems: []int{1}}, {Kind: -1, Elems: []int{1}},
		in(api.KInt, []int{2}, 1), in(api.KInt, []int{2}, 1, 2, 3), in(api.KInt, nil, 1, 2), in(api.KInt, []int{0}, 1), in(api.KInt, []int{2, 2}, 1, 2),
		in(api.KInt, []int{-1}), in(api.KInt, []int{-1, -1}, 1), in(api.KInt, []int{0, -1}), in(api.KInt, []int{4001, 0}), in(api.KInt, []int{0, math.MaxInt, 2}),
		in(api.KInt, []int{1, 1, 1, 1}, 1), in(api.KInt, []int{1, 1, 1, 0}), zeros(api.KInt, 4001), zeros(api.KLogical, 2001, 2), in(api.KInt, []int{1 << 32, 1 << 32}),
		ints(1, api.MaxInt+1), ints(-api.MaxInt - 1), logicals(1, 2), logicals(-1), in(api.KReal4, []int{1}, -1), in(api.KReal4, []int{1}, 1<<32), in(0, []int{0}), in(5, []int{0}),
	}
}

// noValues are values that are not valid.
func noValues() []api.Value {
	return []api.Value{
		{}, {Kind: 0, N: 1}, {Kind: 5}, {Kind: -1}, {Kind: 8}, {Kind: math.MinInt}, integer(api.MaxInt + 1), integer(-api.MaxInt - 1), integer(math.MinInt), integer(math.MaxInt),
		logical(2), logical(-1), bits4(-1), bits4(1 << 32), bits4(math.MinInt), bits4(math.MaxInt),
	}
}
