package section

import (
	"math"
	"testing"

	"quadrat/api"
)

// call is a call of a function of one descriptor with nothing wrong but for that, and whether it told nothing beside the error.
type call struct {
	name string
	do   func(d api.Desc) (empty bool, err api.Errno)
}

func calls() []call {
	return []call{
		{"At", func(d api.Desc) (bool, api.Errno) {
			place, err := At(d, make([]int, len(d.Extents)))
			return place == 0, err
		}},
		{"At out of bounds", func(d api.Desc) (bool, api.Errno) {
			l := make([]int, len(d.Extents))
			for i := range l {
				l[i] = -1
			}
			place, err := At(d, l)
			return place == 0, err
		}},
		{"Size", func(d api.Desc) (bool, api.Errno) {
			n, err := Size(d)
			return n == 0, err
		}},
		{"Places", func(d api.Desc) (bool, api.Errno) {
			l, err := Places(d)
			return len(l) == 0, err
		}},
		{"Cut", func(d api.Desc) (bool, api.Errno) {
			c, err := Cut(d, make([]api.Sub, len(d.Extents)))
			return isNothing(c), err
		}},
		{"Cut by numbers", func(d api.Desc) (bool, api.Errno) {
			l := make([]api.Sub, len(d.Extents))
			for i := range l {
				l[i].Is = true
			}
			c, err := Cut(d, l)
			return isNothing(c), err
		}},
		{"Pick", func(d api.Desc) (bool, api.Errno) {
			l, err := Pick(d, make([][]int, len(d.Extents)))
			return len(l) == 0, err
		}},
		{"Pick out of bounds", func(d api.Desc) (bool, api.Errno) {
			lists := make([][]int, len(d.Extents))
			for i := range lists {
				lists[i] = nums(-1)
			}
			l, err := Pick(d, lists)
			return len(l) == 0, err
		}},
		{"Contiguous", func(d api.Desc) (bool, api.Errno) {
			is, err := Contiguous(d)
			return !is, err
		}},
		{"Transpose", func(d api.Desc) (bool, api.Errno) {
			x, err := Transpose(d)
			return isNothing(x), err
		}},
		{"Reverse", func(d api.Desc) (bool, api.Errno) {
			x, err := Reverse(d, 0)
			return isNothing(x), err
		}},
		{"Share", func(d api.Desc) (bool, api.Errno) {
			is, err := Share(d, desc(0))
			return !is, err
		}},
		{"Share as the second", func(d api.Desc) (bool, api.Errno) {
			is, err := Share(desc(0), d)
			return !is, err
		}},
		{"Share with itself", func(d api.Desc) (bool, api.Errno) {
			is, err := Share(d, d)
			return !is, err
		}},
	}
}

// A descriptor that is none comes ahead of all else.
func TestNoDescriptors(t *testing.T) {
	for _, c := range calls() {
		for _, d := range noDescs() {
			if empty, err := c.do(d); !empty || err != api.ErrArg {
				t.Errorf("%s of %v: %v, %d", c.name, d, empty, err)
			}
		}
	}
}

// There are as many subscripts as dimensions, or ErrArg comes ahead of the bounds.
func TestHowManySubscripts(t *testing.T) {
	descs := []api.Desc{desc(3), desc(0, 4, 1), desc(0, 4, 1, 3, 4), desc(0, 2, 1, 2, 2, 2, 4), desc(0, 0, 1)}
	for _, d := range descs {
		for n := range 6 {
			if n == len(d.Extents) {
				continue
			}
			for _, s := range []int{0, -1, 9} {
				ones, numbers, lists := make([]int, n), make([]api.Sub, n), make([][]int, n)
				for i := range n {
					ones[i], numbers[i], lists[i] = s, number(s), nums(s)
				}
				if place, err := At(d, ones); place != 0 || err != api.ErrArg {
					t.Errorf("At(%v, %v) = %d, %d", d, ones, place, err)
				}
				if c, err := Cut(d, numbers); !isNothing(c) || err != api.ErrArg {
					t.Errorf("Cut(%v, %v) = %v, %d", d, numbers, c, err)
				}
				if l, err := Pick(d, lists); len(l) != 0 || err != api.ErrArg {
					t.Errorf("Pick(%v, %v) = %v, %d", d, lists, l, err)
				}
			}
		}
	}
}

// A triple that is none comes ahead of bounds, also of those on its left.
func TestCutByNoTriples(t *testing.T) {
	d := desc(0, 4, 1, 3, 4)
	for _, x := range noTriples() {
		for _, other := range []api.Sub{number(0), number(-1), number(4), triple(0, 9, 1), triple(0, 1, 1)} {
			for _, l := range [][]api.Sub{{{T: x}, other}, {other, {T: x}}} {
				if c, err := Cut(d, l); !isNothing(c) || err != api.ErrArg {
					t.Errorf("Cut(%v, %v) = %v, %d", d, l, c, err)
				}
			}
		}
	}
}

func TestCutOutOfBounds(t *testing.T) {
	d := desc(100, 4, 1, 3, 4)
	for _, l := range [][]api.Sub{
		subs(number(4), number(0)), subs(number(-1), number(0)), subs(number(0), number(3)), subs(number(0), number(-1)),
		subs(number(math.MaxInt), number(0)), subs(number(0), number(math.MinInt)), subs(number(math.MinInt), number(math.MaxInt)),
		subs(triple(0, 4, 1), number(0)), subs(triple(-1, 3, 1), number(0)), subs(triple(4, 0, -1), number(0)), subs(triple(3, -1, -1), number(0)),
		subs(triple(4, 4, 1), number(0)), subs(triple(-1, -1, 1), number(0)), subs(triple(1, 4, 3), number(0)), subs(triple(-2, 3, 5), number(0)),
		subs(number(0), triple(0, 3, 1)), subs(number(0), triple(1, far, 1)), subs(triple(-far, far, far), triple(0, 2, 1)), subs(triple(0, far, far), number(0)),
		subs(triple(9, 1, 1), number(3)), subs(number(4), triple(9, 1, 1)), subs(triple(far, -far, -far), number(0)),
	} {
		if c, err := Cut(d, l); !isNothing(c) || err != api.ErrBounds {
			t.Errorf("Cut(%v, %v) = %v, %d", d, l, c, err)
		}
	}
	none := desc(5, 0, 1, 3, -2)
	for _, l := range [][]api.Sub{subs(number(0), number(0)), subs(triple(0, 0, 1), number(0)), subs(triple(1, 0, 1), number(3)), subs(triple(1, 0, 1), triple(2, 3, 1))} {
		if c, err := Cut(none, l); !isNothing(c) || err != api.ErrBounds {
			t.Errorf("Cut(%v, %v) = %v, %d", none, l, c, err)
		}
	}
}

func TestAtOutOfBounds(t *testing.T) {
	for _, c := range []struct {
		d    api.Desc
		subs []int
	}{
		{desc(9, 4, 1), nums(4)}, {desc(9, 4, 1), nums(-1)}, {desc(9, 4, 1), nums(math.MaxInt)}, {desc(9, 4, 1), nums(math.MinInt)},
		{desc(9, 4, 1, 3, 4), nums(4, 0)}, {desc(9, 4, 1, 3, 4), nums(0, 3)}, {desc(9, 4, 1, 3, 4), nums(-1, 3)}, {desc(9, 2, 1, 2, 2, 2, 4), nums(1, 1, 2)},
		{desc(9, 0, 1), nums(0)}, {desc(9, 4, 1, 0, 4), nums(0, 0)}, {desc(9, 0, 1, 4, 4), nums(0, 0)}, {desc(9, 0, 1, 4, 4), nums(-1, 0)},
	} {
		if place, err := At(c.d, c.subs); place != 0 || err != api.ErrBounds {
			t.Errorf("At(%v, %v) = %d, %d", c.d, c.subs, place, err)
		}
	}
}

func TestReverseOfNoDimension(t *testing.T) {
	for _, d := range []api.Desc{desc(3), desc(3, 2, 1), desc(3, 2, 1, 2, 2, 2, 4), desc(3, 0, 1)} {
		for _, dim := range []int{-1, len(d.Extents), len(d.Extents) + 1, math.MinInt, math.MaxInt} {
			if x, err := Reverse(d, dim); !isNothing(x) || err != api.ErrArg {
				t.Errorf("Reverse(%v, %d) = %v, %d", d, dim, x, err)
			}
		}
	}
}

func TestTransposeOfNotTwoDimensions(t *testing.T) {
	for _, d := range []api.Desc{desc(3), desc(3, 2, 1), desc(3, 0, 1), desc(3, 2, 1, 2, 2, 2, 4)} {
		if x, err := Transpose(d); !isNothing(x) || err != api.ErrShape {
			t.Errorf("Transpose(%v) = %v, %d", d, x, err)
		}
	}
}
