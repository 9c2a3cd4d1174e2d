package float

import (
	"math"
	"testing"

	"quadrat/api"
)

func noKinds() []int {
	return []int{math.MinInt, -8, -1, 0, 1, 3, 5, 6, 7, 9, 16, 32, 64, math.MaxInt}
}

func noModes() []int {
	return []int{math.MinInt, -1, 4, 5, math.MaxInt}
}

// noBits are no bits of kind 2, or 4. Of kind 8 all are bits.
func noBits(kind int) []int {
	if kind == 8 {
		return nil
	}
	return []int{math.MinInt, -1 << 31, -1 << 15, -1, 1 << (8 * kind), 1<<(8*kind) + 1, 1 << (8*kind + 1), math.MaxInt}
}

// call is a call of any function: what it gives beside the error.
type call func(kind, mode, a int) (results [3]int, err api.Errno)

// calls are all functions with an error; every operand is a, in turn.
func calls() map[string]call {
	m := map[string]call{}
	for _, o := range operators() {
		m[o.name+" left"] = func(kind, mode, a int) ([3]int, api.Errno) {
			out, flags, err := o.do(kind, mode, a, 0)
			return [3]int{out, flags}, err
		}
		m[o.name+" right"] = func(kind, mode, a int) ([3]int, api.Errno) {
			out, flags, err := o.do(kind, mode, quietBits(2), a)
			return [3]int{out, flags}, err
		}
	}
	m["Sqrt"] = func(kind, mode, a int) ([3]int, api.Errno) {
		out, flags, err := Sqrt(kind, mode, a)
		return [3]int{out, flags}, err
	}
	m["ToInt"] = func(kind, mode, a int) ([3]int, api.Errno) {
		out, flags, err := ToInt(kind, mode, a)
		return [3]int{out, flags}, err
	}
	m["Convert from"] = func(kind, mode, a int) ([3]int, api.Errno) {
		out, flags, err := Convert(kind, 4, mode, a)
		return [3]int{out, flags}, err
	}
	return m
}

// callsWithoutMode are those that round nothing.
func callsWithoutMode() map[string]call {
	return map[string]call{
		"Compare left": func(kind, _, a int) ([3]int, api.Errno) {
			n, err := Compare(kind, a, 1)
			return [3]int{n}, err
		},
		"Compare right": func(kind, _, a int) ([3]int, api.Errno) {
			n, err := Compare(kind, quietBits(2), a)
			return [3]int{n}, err
		},
		"Neg": func(kind, _, a int) ([3]int, api.Errno) {
			n, err := Neg(kind, a)
			return [3]int{n}, err
		},
		"Abs": func(kind, _, a int) ([3]int, api.Errno) {
			n, err := Abs(kind, a)
			return [3]int{n}, err
		},
		"Parts": func(kind, _, a int) ([3]int, api.Errno) {
			s, m, e, err := Parts(kind, a)
			return [3]int{s, m, e}, err
		},
		"Next up": func(kind, _, a int) ([3]int, api.Errno) {
			n, err := Next(kind, a, true)
			return [3]int{n}, err
		},
		"Next down": func(kind, _, a int) ([3]int, api.Errno) {
			n, err := Next(kind, a, false)
			return [3]int{n}, err
		},
	}
}

func refused(t *testing.T, name string, do call, kind, mode, a int) {
	t.Helper()
	if results, err := do(kind, mode, a); err != api.ErrArg || results != [3]int{} {
		t.Errorf("%s with kind %d, mode %d, %#x: %v, %d", name, kind, mode, a, results, err)
	}
}

// checkRefused also gives infinite ones and no numbers, whose results are looked at only behind ErrArg.
func checkRefused(t *testing.T, name string, do call, rounds bool) {
	for _, a := range []int{0, one2, inf2, quiet2} {
		for _, kind := range noKinds() {
			refused(t, name, do, kind, 0, a)
		}
		if rounds {
			for _, mode := range noModes() {
				for _, kind := range kinds {
					refused(t, name, do, kind, mode, a)
				}
			}
		}
	}
	for _, kind := range kinds {
		for _, a := range noBits(kind) {
			refused(t, name, do, kind, 3, a)
		}
	}
	for _, a := range []int{math.MinInt, -1, 0, 1, math.MaxInt} {
		if _, err := do(8, 3, a); err == api.ErrArg {
			t.Errorf("%s of %#x of kind 8: ErrArg", name, a)
		}
	}
}

func TestArguments(t *testing.T) {
	for name, do := range calls() {
		checkRefused(t, name, do, true)
	}
	for name, do := range callsWithoutMode() {
		checkRefused(t, name, do, false)
	}
}

func TestArgumentsOfFromIntAndMake(t *testing.T) {
	fromInt := func(kind, mode, a int) ([3]int, api.Errno) {
		out, flags, err := FromInt(kind, mode, a)
		return [3]int{out, flags}, err
	}
	to := func(kind, mode, a int) ([3]int, api.Errno) {
		out, flags, err := Convert(2, kind, mode, a)
		return [3]int{out, flags}, err
	}
	mk := func(sign, m, e int) call {
		return func(kind, mode, _ int) ([3]int, api.Errno) {
			out, flags, err := Make(kind, mode, sign, m, e)
			return [3]int{out, flags}, err
		}
	}
	for name, do := range map[string]call{"FromInt": fromInt, "Convert to": to, "Make": mk(0, 1, 0), "Make of a zero": mk(1, 0, 0)} {
		for _, a := range []int{0, 1, quiet2} {
			for _, kind := range noKinds() {
				refused(t, name, do, kind, 0, a)
			}
			for _, mode := range noModes() {
				refused(t, name, do, 8, mode, a)
			}
		}
	}
	for _, r := range [][3]int{{-1, 1, 0}, {2, 1, 0}, {-1, 0, 0}, {0, -1, 0}, {1, math.MinInt, 0}, {0, 1, 2001}, {0, 1, -2001}, {0, 0, 2001}, {1, 0, math.MinInt}, {0, 1, math.MaxInt}} {
		for _, kind := range kinds {
			refused(t, "Make", mk(r[0], r[1], r[2]), kind, 0, 0)
		}
	}
}

func TestValid(t *testing.T) {
	for _, kind := range noKinds() {
		for _, a := range []int{0, 1, -1} {
			if Valid(kind, a) {
				t.Errorf("Valid of kind %d", kind)
			}
		}
	}
	for _, kind := range kinds {
		for _, a := range edges(kind) {
			if !Valid(kind, a) {
				t.Errorf("not Valid: %#x of kind %d", uint64(a), kind)
			}
		}
		for _, a := range noBits(kind) {
			if Valid(kind, a) {
				t.Errorf("Valid: %#x of kind %d", a, kind)
			}
		}
	}
	if !Valid(2, 1<<16-1) || !Valid(4, 1<<32-1) || !Valid(8, math.MinInt) || !Valid(8, math.MaxInt) || !Valid(8, -1) {
		t.Error("all bits")
	}
}
