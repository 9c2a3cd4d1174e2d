package array

import (
	"slices"

	"quadrat/api"
	"quadrat/section"
)

func reshape(x, s api.Array) (api.Array, api.Errno) {
	switch {
	case s.Kind != api.KInt:
		return api.Array{}, api.ErrType
	case !areExtents(s):
		return api.Array{}, api.ErrArg
	}
	out, err := shaped(x.Kind, s.Elems)
	if err != api.OK || len(x.Elems) < len(out.Elems) {
		return api.Array{}, api.ErrShape
	}
	copy(out.Elems, x.Elems)
	return out, api.OK
}

// areExtents reports whether an array is a list of 1 to MaxRank integers from 0 on.
func areExtents(s api.Array) bool {
	if len(s.Shape) != 1 || len(s.Elems) == 0 || len(s.Elems) > api.MaxRank {
		return false
	}
	return slices.Min(s.Elems) >= 0
}

func transpose(x api.Array) (api.Array, api.Errno) {
	if len(x.Shape) != 2 {
		return api.Array{}, api.ErrRank
	}
	d, _ := section.Whole(x.Shape)
	d, _ = section.Transpose(d)
	places, _ := section.Places(d)
	out, _ := shaped(x.Kind, d.Extents)
	for i := range len(places) {
		out.Elems[i] = x.Elems[places[i]]
	}
	return out, api.OK
}

func multiply(x, y api.Array) (api.Array, api.Errno) {
	ranks := [2]int{len(x.Shape), len(y.Shape)}
	switch {
	case !isNumber(x.Kind) || !isNumber(y.Kind):
		return api.Array{}, api.ErrType
	case ranks != [2]int{2, 2} && ranks != [2]int{2, 1} && ranks != [2]int{1, 2}:
		return api.Array{}, api.ErrRank
	}
	last := ranks[0] - 1
	inner := x.Shape[last]
	if inner != y.Shape[0] {
		return api.Array{}, api.ErrShape
	}
	out, err := shaped(common(x.Kind, y.Kind), slices.Concat(x.Shape[:last], y.Shape[1:]))
	if err != api.OK {
		return api.Array{}, err
	}
	rows, _ := product(x.Shape[:last])
	sumOf := sumOfProducts(x, y, rows, inner)
	for k := range len(out.Elems) {
		out.Elems[k], err = sumOf(k%rows, k/rows)
		if err != api.OK {
			return api.Array{}, err
		}
	}
	return out, api.OK
}

// sumOfProducts returns what sums the products of a row of x and a column of y, in order.
func sumOfProducts(x, y api.Array, rows, inner int) func(row, column int) (int, api.Errno) {
	multiplied, added := workOfTwo("*", x.Kind, y.Kind), pairOf("+", common(x.Kind, y.Kind))
	return func(row, column int) (int, api.Errno) {
		sum := 0
		for k := range inner {
			n, err := multiplied([]int{x.Elems[row+k*rows], y.Elems[k+column*inner]})
			if err != api.OK {
				return 0, err
			}
			sum, err = added(sum, n)
			if err != api.OK {
				return 0, err
			}
		}
		return sum, api.OK
	}
}

func shift(x, by api.Array) (api.Array, api.Errno) {
	switch {
	case by.Kind != api.KInt:
		return api.Array{}, api.ErrType
	case len(x.Shape) != 1 || !isScalar(by):
		return api.Array{}, api.ErrRank
	}
	out, _ := shaped(x.Kind, x.Shape)
	extent := len(x.Elems)
	for i := range extent {
		from := (i + by.Elems[0]) % extent
		if from < 0 {
			from += extent
		}
		out.Elems[i] = x.Elems[from]
	}
	return out, api.OK
}

func spread(x, many api.Array) (api.Array, api.Errno) {
	switch {
	case many.Kind != api.KInt:
		return api.Array{}, api.ErrType
	case len(x.Shape) == api.MaxRank || !isScalar(many):
		return api.Array{}, api.ErrRank
	}
	n := many.Elems[0]
	if n < 0 || n > api.MaxElems {
		return api.Array{}, api.ErrArg
	}
	out, err := shaped(x.Kind, slices.Concat(x.Shape, many.Elems))
	if err != api.OK {
		return api.Array{}, err
	}
	for i := range len(out.Elems) {
		out.Elems[i] = x.Elems[i%len(x.Elems)]
	}
	return out, api.OK
}

func pack(x, mask api.Array) (api.Array, api.Errno) {
	switch {
	case mask.Kind != api.KLogical:
		return api.Array{}, api.ErrType
	case isScalar(x):
		return api.Array{}, api.ErrRank
	}
	if _, err := conform([]api.Array{x, mask}); err != api.OK {
		return api.Array{}, err
	}
	elems := []int{}
	for i := range len(x.Elems) {
		if at(mask, i) == 1 {
			elems = append(elems, x.Elems[i])
		}
	}
	return list(x.Kind, elems), api.OK
}
