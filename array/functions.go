package array

import (
	"quadrat/api"
	"quadrat/float"
)

// functions are the functions' names, ascending, and how many arguments each one has.
var functions = []struct {
	name  string
	count int
}{
	{"abs", 1}, {"all", 1}, {"any", 1}, {"count", 1}, {"cshift", 2}, {"dble", 1}, {"int", 1}, {"matmul", 2}, {"max", 2},
	{"maxloc", 1}, {"maxval", 1}, {"merge", 3}, {"min", 2}, {"minloc", 1}, {"minval", 1}, {"mod", 2}, {"pack", 2}, {"product", 1},
	{"real", 1}, {"reshape", 2}, {"shape", 1}, {"size", 1}, {"spread", 2}, {"sqrt", 1}, {"sum", 1}, {"transpose", 1},
}

// call calls a function with as many arguments as it has, all valid.
func call(name string, l []api.Array) (api.Array, api.Errno) {
	switch name {
	case "int":
		return Convert(api.KInt, l[0])
	case "real":
		return Convert(api.KReal4, l[0])
	case "dble":
		return Convert(api.KReal8, l[0])
	case "abs":
		return absolute(l[0])
	case "sqrt":
		return root(l[0])
	case "mod":
		return rest(l[0], l[1])
	case "min", "max":
		return choice(wanted(name), l[0], l[1])
	case "merge":
		return merge(l[0], l[1], l[2])
	case "sum", "product", "minval", "maxval", "all", "any", "count":
		return reduce(name, l[0])
	case "minloc", "maxloc":
		return place(wanted(name), l[0])
	case "size":
		return count(l[0])
	case "shape":
		return list(api.KInt, append([]int{}, l[0].Shape...)), api.OK
	case "reshape":
		return reshape(l[0], l[1])
	case "transpose":
		return transpose(l[0])
	case "matmul":
		return multiply(l[0], l[1])
	case "cshift":
		return shift(l[0], l[1])
	case "spread":
		return spread(l[0], l[1])
	}
	return pack(l[0], l[1])
}

func absolute(x api.Array) (api.Array, api.Errno) {
	if !isNumber(x.Kind) {
		return api.Array{}, api.ErrType
	}
	return each(x.Kind, func(l []int) (int, api.Errno) {
		if x.Kind == api.KInt {
			return max(l[0], -l[0]), api.OK
		}
		return float.Abs(size(x.Kind), l[0])
	}, x)
}

func root(x api.Array) (api.Array, api.Errno) {
	if !isFloat(x.Kind) {
		return api.Array{}, api.ErrType
	}
	return each(x.Kind, func(l []int) (int, api.Errno) {
		out, _, err := float.Sqrt(size(x.Kind), toNearest, l[0])
		return out, err
	}, x)
}

// rest returns what divisions of integers leave.
func rest(a, b api.Array) (api.Array, api.Errno) {
	if a.Kind != api.KInt || b.Kind != api.KInt {
		return api.Array{}, api.ErrType
	}
	return each(api.KInt, func(l []int) (int, api.Errno) {
		if l[1] == 0 {
			return 0, api.ErrZero
		}
		return l[0] % l[1], api.OK
	}, a, b)
}

// wanted returns how the second of two numbers compares to the first, if a function takes it.
func wanted(name string) int {
	if name[:3] == "min" {
		return -1
	}
	return 1
}

// better returns the second of two numbers, if it compares to the first as is wanted, else the first.
func better(want, kind int) pair {
	return func(a, b int) (int, api.Errno) {
		if compare(kind, b, a) == want {
			return b, api.OK
		}
		return a, api.OK
	}
}

func choice(want int, a, b api.Array) (api.Array, api.Errno) {
	if !isNumber(a.Kind) || !isNumber(b.Kind) {
		return api.Array{}, api.ErrType
	}
	kind := common(a.Kind, b.Kind)
	return each(kind, workOfPair(better(want, kind), a.Kind, b.Kind), a, b)
}

func merge(a, b, mask api.Array) (api.Array, api.Errno) {
	if a.Kind != b.Kind || mask.Kind != api.KLogical {
		return api.Array{}, api.ErrType
	}
	return each(a.Kind, func(l []int) (int, api.Errno) {
		if l[2] == 1 {
			return l[0], api.OK
		}
		return l[1], api.OK
	}, a, b, mask)
}
