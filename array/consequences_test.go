package array

import (
	"math/rand"
	"testing"

	"quadrat/api"
)

// Do of + and * does not ask which operand is first, but for no numbers, which are one.
func TestEitherFirst(t *testing.T) {
	r := rand.New(rand.NewSource(4))
	kinds := []int{api.KInt, api.KReal4, api.KReal8}
	for range 3000 {
		shape := someShape(r, r.Intn(4))
		a, b := someOf(r, samples(kinds[r.Intn(3)]), shape...), someOf(r, samples(kinds[r.Intn(3)]), shape...)
		for _, op := range []string{"+", "*"} {
			x, err := Do(op, a, b)
			y, bad := Do(op, b, a)
			if !equal(x, y) || err != bad {
				t.Fatalf("%v %s %v is %v, %d; the other way %v, %d", a, op, b, x, err, y, bad)
			}
		}
	}
}

// must calls a function that has nothing to complain about.
func must(t *testing.T, name string, l ...api.Array) api.Array {
	t.Helper()
	a, err := Call(name, l)
	if err != api.OK || !Valid(a) {
		t.Fatalf("%s%v = %v, %d", name, l, a, err)
	}
	return a
}

func TestReshapeBack(t *testing.T) {
	r := rand.New(rand.NewSource(5))
	for range 1000 {
		x := someOf(r, samples(1+r.Intn(4)), someShape(r, 1+r.Intn(3))...)
		n := len(x.Elems)
		for _, s := range []api.Array{ints(n), ints(1, n), ints(n, 1, 1)} {
			back := must(t, "reshape", must(t, "reshape", x, s), must(t, "shape", x))
			if !equal(back, x) {
				t.Fatalf("%v by %v and back is %v", x, s, back)
			}
		}
	}
}

func TestTransposeTwice(t *testing.T) {
	r := rand.New(rand.NewSource(6))
	for range 1000 {
		x := someOf(r, samples(1+r.Intn(4)), someShape(r, 2)...)
		y := must(t, "transpose", x)
		for i := range x.Shape[0] {
			for j := range x.Shape[1] {
				if x.Elems[i+j*x.Shape[0]] != y.Elems[j+i*x.Shape[1]] {
					t.Fatalf("%v transposed is %v", x, y)
				}
			}
		}
		if back := must(t, "transpose", y); !equal(back, x) {
			t.Fatalf("%v transposed twice is %v", x, back)
		}
	}
}

func TestCshiftBack(t *testing.T) {
	r := rand.New(rand.NewSource(7))
	for range 1000 {
		x := someOf(r, samples(1+r.Intn(4)), r.Intn(9))
		n := r.Intn(41) - 20
		y := must(t, "cshift", x, alone(integer(n)))
		for i := range x.Elems {
			from := i + n
			for from < 0 {
				from += len(x.Elems)
			}
			for from >= len(x.Elems) {
				from -= len(x.Elems)
			}
			if y.Elems[i] != x.Elems[from] {
				t.Fatalf("%v by %d is %v", x, n, y)
			}
		}
		if back := must(t, "cshift", y, alone(integer(-n))); !equal(back, x) {
			t.Fatalf("%v by %d and back is %v", x, n, back)
		}
	}
}

// pack by true is all in order; by any mask it is as many as count says, and what is packed by the opposite is the rest.
func TestPackAll(t *testing.T) {
	r := rand.New(rand.NewSource(8))
	for range 1000 {
		shape := someShape(r, 1+r.Intn(3))
		x := someOf(r, samples(1+r.Intn(4)), shape...)
		if all := must(t, "pack", x, alone(logical(1))); !equal(all, in(x.Kind, []int{len(x.Elems)}, x.Elems...)) {
			t.Fatalf("%v by true is %v", x, all)
		}
		mask := someOf(r, samples(api.KLogical), shape...)
		var want []int
		for i := range x.Elems {
			if mask.Elems[i] == 1 {
				want = append(want, x.Elems[i])
			}
		}
		some := must(t, "pack", x, mask)
		if n := must(t, "count", mask).Elems[0]; n != len(want) || !equal(some, in(x.Kind, []int{n}, want...)) {
			t.Fatalf("%v by %v is %v", x, mask, some)
		}
	}
}

func TestSpreadSize(t *testing.T) {
	r := rand.New(rand.NewSource(9))
	for range 1000 {
		x := someOf(r, samples(1+r.Intn(4)), someShape(r, r.Intn(3))...)
		n := r.Intn(8)
		y := must(t, "spread", x, alone(integer(n)))
		if size := must(t, "size", y).Elems[0]; size != n*len(x.Elems) || len(y.Shape) != len(x.Shape)+1 || y.Shape[len(x.Shape)] != n {
			t.Fatalf("%v spread %d times is %v", x, n, y)
		}
		for i := range y.Elems {
			if y.Elems[i] != x.Elems[i%len(x.Elems)] {
				t.Fatalf("%v spread %d times is %v", x, n, y)
			}
		}
	}
}

// matmul is, element by element, the sum of products by Do and Call.
func TestMatmulIsSums(t *testing.T) {
	r := rand.New(rand.NewSource(10))
	kinds := []int{api.KInt, api.KReal4, api.KReal8}
	for range 1000 {
		rows, inner, columns := r.Intn(5), r.Intn(5), r.Intn(5)
		x := someOf(r, samples(kinds[r.Intn(3)]), rows, inner)
		y := someOf(r, samples(kinds[r.Intn(3)]), inner, columns)
		want, wanted := in(max(x.Kind, y.Kind), []int{rows, columns}), api.OK
		for j := range columns {
			for i := range rows {
				sum, _ := To(want.Kind, integer(0))
				for k := range inner {
					n, err := One("*", api.Value{Kind: x.Kind, N: x.Elems[i+k*rows]}, api.Value{Kind: y.Kind, N: y.Elems[k+j*inner]})
					if err == api.OK {
						sum, err = One("+", sum, n)
					}
					if err != api.OK {
						wanted = err
						break
					}
				}
				want.Elems = append(want.Elems, sum.N)
			}
		}
		if wanted != api.OK {
			want = api.Array{}
		}
		if a, err := Call("matmul", args(x, y)); !equal(a, want) || err != wanted {
			t.Fatalf("matmul(%v, %v) = %v, %d; want %v, %d", x, y, a, err, want, wanted)
		}
	}
}

// sum, product and the extremes are, step by step, what One and the functions of two say.
func TestReductionsAreSteps(t *testing.T) {
	r := rand.New(rand.NewSource(11))
	kinds := []int{api.KInt, api.KReal4, api.KReal8}
	for range 1000 {
		x := someOf(r, samples(kinds[r.Intn(3)]), 1+r.Intn(6))
		for name, op := range map[string]string{"sum": "+", "product": "*"} {
			start := integer(0)
			if name == "product" {
				start = integer(1)
			}
			v, err := To(x.Kind, start)
			for _, e := range x.Elems {
				if err == api.OK {
					v, err = One(op, v, api.Value{Kind: x.Kind, N: e})
				}
			}
			want := api.Array{}
			if err == api.OK {
				want = alone(v)
			}
			if a, bad := Call(name, args(x)); !equal(a, want) || bad != err {
				t.Fatalf("%s(%v) = %v, %d", name, x, a, bad)
			}
		}
		for name, two := range map[string]string{"minval": "min", "maxval": "max"} {
			best := alone(api.Value{Kind: x.Kind, N: x.Elems[0]})
			for _, e := range x.Elems[1:] {
				best = must(t, two, best, alone(api.Value{Kind: x.Kind, N: e}))
			}
			if a := must(t, name, x); !equal(a, best) {
				t.Fatalf("%s(%v) = %v", name, x, a)
			}
		}
	}
}

// min and max take what compares as less, greater, when both are of one kind.
func TestMinMaxOfSome(t *testing.T) {
	r := rand.New(rand.NewSource(12))
	kinds := []int{api.KInt, api.KReal4, api.KReal8}
	for range 1000 {
		shape := someShape(r, r.Intn(4))
		a, b := someOf(r, samples(kinds[r.Intn(3)]), shape...), someOf(r, samples(kinds[r.Intn(3)]), shape...)
		kind := max(a.Kind, b.Kind)
		x, _ := Convert(kind, a)
		y, _ := Convert(kind, b)
		for name, op := range map[string]string{"min": "<", "max": ">"} {
			mask, _ := Do(op, y, x)
			if got := must(t, name, a, b); !equal(got, must(t, "merge", y, x, mask)) {
				t.Fatalf("%s(%v, %v) = %v", name, a, b, got)
			}
		}
	}
}

// mod is what the division leaves.
func TestModOfSome(t *testing.T) {
	for _, a := range samples(api.KInt) {
		for _, b := range samples(api.KInt) {
			if b.N == 0 {
				continue
			}
			q, _ := One("/", a, b)
			checkCall(t, "mod", args(alone(a), alone(b)), alone(integer(a.N-b.N*q.N)))
		}
	}
}

// sqrt, abs, int, real and dble are element by element what One, Only and To say of scalars.
func TestEachElement(t *testing.T) {
	r := rand.New(rand.NewSource(13))
	for range 300 {
		x := someOf(r, samples([]int{api.KInt, api.KReal4, api.KReal8}[r.Intn(3)]), someShape(r, 1+r.Intn(3))...)
		for _, name := range []string{"abs", "int", "real", "dble", "sqrt"} {
			if name == "sqrt" && x.Kind == api.KInt {
				continue
			}
			want, wanted := api.Array{Shape: x.Shape}, api.OK
			for _, e := range x.Elems {
				a, err := Call(name, args(alone(api.Value{Kind: x.Kind, N: e})))
				if err != api.OK {
					want, wanted = api.Array{}, err
					break
				}
				want.Kind, want.Elems = a.Kind, append(want.Elems, a.Elems[0])
			}
			got, err := Call(name, args(x))
			if err == api.OK && len(x.Elems) == 0 {
				want.Kind = got.Kind
			}
			if !equal(got, want) || err != wanted {
				t.Fatalf("%s(%v) = %v, %d; want %v, %d", name, x, got, err, want, wanted)
			}
		}
	}
}
