package section

import (
	"math/rand"
	"reflect"
	"testing"

	"quadrat/api"
)

// far is the greatest place, stride and number of a triple.
const far = 1 << 31

// desc makes a descriptor of extents and strides by turns.
func desc(base int, extentsAndStrides ...int) api.Desc {
	d := api.Desc{Base: base}
	for i := 0; i+1 < len(extentsAndStrides); i += 2 {
		d.Extents = append(d.Extents, extentsAndStrides[i])
		d.Strides = append(d.Strides, extentsAndStrides[i+1])
	}
	return d
}

func number(n int) api.Sub {
	return api.Sub{Is: true, One: n}
}

func triple(lo, hi, step int) api.Sub {
	return api.Sub{T: api.Triple{Lo: lo, Hi: hi, Step: step}}
}

func subs(l ...api.Sub) []api.Sub {
	return l
}

func nums(l ...int) []int {
	return l
}

// equal holds lists against each other without a function that the package calls.
func equal(a, b []int) bool {
	return len(a) == len(b) && (len(a) == 0 || reflect.DeepEqual(a, b))
}

func equalDesc(a, b api.Desc) bool {
	return a.Base == b.Base && equal(a.Extents, b.Extents) && equal(a.Strides, b.Strides)
}

// isNothing reports whether a descriptor is none, as it is with an error.
func isNothing(d api.Desc) bool {
	return equalDesc(d, api.Desc{})
}

// placesOf are the places of a descriptor by loops, the first subscript in the innermost one.
func placesOf(d api.Desc) (l []int) {
	e, s := [3]int{1, 1, 1}, [3]int{}
	copy(e[:], d.Extents)
	copy(s[:], d.Strides)
	for k := range e[2] {
		for j := range e[1] {
			for i := range e[0] {
				l = append(l, d.Base+i*s[0]+j*s[1]+k*s[2])
			}
		}
	}
	return l
}

// membersOf are the members of a triple one by one.
func membersOf(t api.Triple) (l []int) {
	for n := t.Lo; t.Step > 0 && n <= t.Hi || t.Step < 0 && n >= t.Hi; n += t.Step {
		l = append(l, n)
	}
	return l
}

// placesWanted fails, if the places of a descriptor are others.
func placesWanted(t *testing.T, d api.Desc, want ...int) {
	t.Helper()
	if l, err := Places(d); !equal(l, want) || err != api.OK {
		t.Errorf("Places(%v) = %v, %d; want %v", d, l, err, want)
	}
}

// someDesc makes a descriptor of at most 6 elements a dimension that is valid, now and then one without elements.
func someDesc(r *rand.Rand) api.Desc {
	for {
		d := desc(r.Intn(60))
		for range r.Intn(4) {
			extent := 1 + r.Intn(6)
			if r.Intn(15) == 0 {
				extent = 0
			}
			d.Extents = append(d.Extents, extent)
			d.Strides = append(d.Strides, r.Intn(25)-12)
		}
		if isRight(d) {
			return d
		}
	}
}

// isRight reports whether all places of a descriptor with small numbers are from 0 on.
func isRight(d api.Desc) bool {
	for _, p := range placesOf(d) {
		if p < 0 {
			return false
		}
	}
	return true
}

// someSub makes a subscript that is within an extent.
func someSub(r *rand.Rand, extent int) api.Sub {
	if extent > 0 && r.Intn(3) == 0 {
		return number(r.Intn(extent))
	}
	for {
		s := triple(r.Intn(extent+5)-2, r.Intn(extent+5)-2, r.Intn(9)-4)
		if s.T.Step != 0 && areWithin(membersOf(s.T), extent) {
			return s
		}
	}
}

func areWithin(l []int, extent int) bool {
	for _, n := range l {
		if n < 0 || n >= extent {
			return false
		}
	}
	return true
}

// someSubs makes subscripts of a descriptor that are within it.
func someSubs(r *rand.Rand, d api.Desc) (l []api.Sub) {
	for _, e := range d.Extents {
		l = append(l, someSub(r, e))
	}
	return l
}

// listOf are a subscript's members as a list.
func listOf(s api.Sub) []int {
	if s.Is {
		return nums(s.One)
	}
	return membersOf(s.T)
}
