package array

import "quadrat/api"

// reduce makes a scalar of an array.
func reduce(name string, x api.Array) (api.Array, api.Errno) {
	numbers := name != "all" && name != "any" && name != "count"
	switch {
	case isNumber(x.Kind) != numbers:
		return api.Array{}, api.ErrType
	case isScalar(x):
		return api.Array{}, api.ErrRank
	}
	switch name {
	case "sum":
		return fold(x.Kind, 0, pairOf("+", x.Kind), x.Elems)
	case "product":
		one, _ := bring(x.Kind, api.KInt, 1)
		return fold(x.Kind, one, pairOf("*", x.Kind), x.Elems)
	case "maxval":
		return extreme(x, wanted(name), least(x.Kind))
	case "minval":
		return extreme(x, wanted(name), greatest(x.Kind))
	case "all":
		return fold(api.KLogical, 1, pairOf(".and.", x.Kind), x.Elems)
	case "any":
		return fold(api.KLogical, 0, pairOf(".or.", x.Kind), x.Elems)
	}
	return fold(api.KInt, 0, pairOf("+", api.KInt), x.Elems) // what is true counts as 1
}

// fold does an operation with what it made so far and each element, in order.
func fold(kind, n int, do pair, elems []int) (api.Array, api.Errno) {
	var err api.Errno
	for _, e := range elems {
		n, err = do(n, e)
		if err != api.OK {
			return api.Array{}, err
		}
	}
	return scalar(kind, n), api.OK
}

// extreme goes from the first element on; none is what there is without one.
func extreme(x api.Array, want, none int) (api.Array, api.Errno) {
	if len(x.Elems) == 0 {
		return scalar(x.Kind, none), api.OK
	}
	return fold(x.Kind, x.Elems[0], better(want, x.Kind), x.Elems[1:])
}

// place returns where the extreme element is, from 1 on.
func place(want int, x api.Array) (api.Array, api.Errno) {
	switch {
	case !isNumber(x.Kind):
		return api.Array{}, api.ErrType
	case len(x.Shape) != 1:
		return api.Array{}, api.ErrRank
	case len(x.Elems) == 0:
		return scalar(api.KInt, 0), api.OK
	}
	best := 0
	for i := range len(x.Elems) {
		if compare(x.Kind, x.Elems[i], x.Elems[best]) == want {
			best = i
		}
	}
	return scalar(api.KInt, best+1), api.OK
}

// count returns how many elements there are.
func count(x api.Array) (api.Array, api.Errno) {
	if isScalar(x) {
		return api.Array{}, api.ErrRank
	}
	return scalar(api.KInt, len(x.Elems)), api.OK
}
