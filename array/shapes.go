package array

import (
	"slices"

	"quadrat/api"
	"quadrat/section"
)

// product returns how many elements extents have, and whether there are such extents.
func product(extents []int) (n int, ok bool) {
	d, err := section.Whole(extents)
	if err != api.OK {
		return 0, false
	}
	n, _ = section.Size(d)
	return n, true
}

func isScalar(a api.Array) bool {
	return len(a.Shape) == 0
}

func scalar(kind, n int) api.Array {
	return api.Array{Kind: kind, Elems: []int{n}}
}

// list returns an array of rank 1 that keeps elements.
func list(kind int, elems []int) api.Array {
	return api.Array{Kind: kind, Shape: []int{len(elems)}, Elems: elems}
}

// shaped returns an array whose elements are not yet told; ErrShape: it is beyond what an array has.
func shaped(kind int, shape []int) (api.Array, api.Errno) {
	n, ok := product(shape)
	if !ok {
		return api.Array{}, api.ErrShape
	}
	return api.Array{Kind: kind, Shape: slices.Clone(shape), Elems: make([]int, n)}, api.OK
}

// conform returns the shape that arrays have in common; scalars go with any.
func conform(l []api.Array) (shape []int, err api.Errno) {
	for _, a := range l {
		switch {
		case isScalar(a):
		case len(shape) == 0:
			shape = a.Shape
		case !slices.Equal(shape, a.Shape):
			return nil, api.ErrShape
		}
	}
	return shape, api.OK
}

// at returns the i-th element; of a scalar it is always the same.
func at(a api.Array, i int) int {
	if isScalar(a) {
		return a.Elems[0]
	}
	return a.Elems[i]
}

// each does a work with arrays element by element, in order.
func each(kind int, do work, l ...api.Array) (api.Array, api.Errno) {
	shape, err := conform(l)
	if err != api.OK {
		return api.Array{}, err
	}
	out, _ := shaped(kind, shape)
	operands := make([]int, len(l))
	for i := range len(out.Elems) {
		for k, a := range l {
			operands[k] = at(a, i)
		}
		out.Elems[i], err = do(operands)
		if err != api.OK {
			return api.Array{}, err
		}
	}
	return out, api.OK
}
