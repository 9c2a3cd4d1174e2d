package section

import (
	"slices"

	"quadrat/api"
)

// greatest is the greatest place, and how far a triple's numbers and strides may be from 0.
const greatest = api.MaxInt + 1

// isFar reports whether a number is one of no triple, and no stride.
func isFar(n int) bool {
	return n < -greatest || n > greatest
}

func isTriple(t api.Triple) bool {
	return t.Step != 0 && !isFar(t.Lo) && !isFar(t.Hi) && !isFar(t.Step)
}

// isSubscript reports whether a number is within the bounds of a dimension.
func isSubscript(n, extent int) bool {
	return n >= 0 && n < extent
}

// product returns how many elements extents have, and whether there are such extents.
func product(extents []int) (n int, ok bool) {
	if len(extents) > api.MaxRank {
		return 0, false
	}
	n = 1
	for _, e := range extents {
		if e < 0 || e > api.MaxElems {
			return 0, false
		}
		n *= e
	}
	if n > api.MaxElems {
		return 0, false
	}
	return n, true
}

// endsFit reports whether the least and the greatest place of a descriptor that has elements are places.
func endsFit(d api.Desc) bool {
	least, most := d.Base, d.Base
	for dim, e := range d.Extents {
		way := (e - 1) * d.Strides[dim]
		least += min(way, 0)
		most += max(way, 0)
	}
	return least >= 0 && most <= greatest
}

// gather returns the places of n combinations of subscripts. So many as counts says are in a dimension, and subscript tells the i-th one of these.
func gather(d api.Desc, n int, counts []int, subscript func(dim, i int) int) []int {
	places := make([]int, n)
	at := make([]int, len(counts))
	for k := range places {
		places[k] = d.Base
		for dim, i := range at {
			places[k] += subscript(dim, i) * d.Strides[dim]
		}
		Next(counts, at)
	}
	return places
}

// reach returns the first and the last member of a subscript, and how many it has; of none, 0 is where they would begin.
func reach(s api.Sub) (first, last, n int) {
	if s.Is {
		return s.One, s.One, 1
	}
	n, _ = Count(s.T)
	if n == 0 {
		return 0, 0, 0
	}
	return s.T.Lo, s.T.Lo + (n-1)*s.T.Step, n
}

func copied(d api.Desc) api.Desc {
	return api.Desc{Base: d.Base, Extents: slices.Clone(d.Extents), Strides: slices.Clone(d.Strides)}
}
