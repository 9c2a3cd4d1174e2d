package section

import (
	"math/rand"
	"testing"

	"quadrat/api"
)

func TestAt(t *testing.T) {
	for _, c := range []struct {
		d    api.Desc
		subs []int
		want int
	}{
		{desc(7), nil, 7},
		{desc(7), []int{}, 7},
		{desc(far), nil, far},
		{desc(7, 3, 5), nums(0), 7},
		{desc(7, 3, 5), nums(2), 17},
		{desc(17, 3, -5), nums(2), 7},
		{desc(0, 4, 1, 3, 4), nums(3, 2), 11},
		{desc(0, 4, 1, 3, 4), nums(1, 2), 9},
		{desc(10, 2, -1, 3, 4, 2, 100), nums(1, 2, 1), 117},
		{desc(0, 2, far), nums(1), far},
		{desc(far, 2, -far), nums(1), 0},
		{desc(3, 4, 0), nums(3), 3},
	} {
		if place, err := At(c.d, c.subs); place != c.want || err != api.OK {
			t.Errorf("At(%v, %v) = %d, %d; want %d", c.d, c.subs, place, err, c.want)
		}
	}
}

func TestSize(t *testing.T) {
	for _, c := range []struct {
		d    api.Desc
		want int
	}{
		{desc(7), 1}, {desc(7, 3, 5), 3}, {desc(0, 4, 1, 3, 4), 12}, {desc(0, 4, 0, 3, 0, 5, 0), 60}, {desc(0, 4000, 1), 4000},
		{desc(0, 0, 1), 0}, {desc(0, 4000, 1, 4000, 1, 0, 1), 0}, {desc(0, 0, 1, 3, 1), 0},
	} {
		if n, err := Size(c.d); n != c.want || err != api.OK {
			t.Errorf("Size(%v) = %d, %d; want %d", c.d, n, err, c.want)
		}
	}
}

func TestPlaces(t *testing.T) {
	placesWanted(t, desc(7), 7)
	placesWanted(t, desc(7, 3, 5), 7, 12, 17)
	placesWanted(t, desc(17, 3, -5), 17, 12, 7)
	placesWanted(t, desc(3, 3, 0), 3, 3, 3)
	placesWanted(t, desc(0, 2, 1, 3, 2), 0, 1, 2, 3, 4, 5)
	placesWanted(t, desc(0, 2, 3, 3, 1), 0, 3, 1, 4, 2, 5)
	placesWanted(t, desc(100, 2, -1, 2, 10, 2, -50), 100, 99, 110, 109, 50, 49, 60, 59)
	placesWanted(t, desc(0, 2, far), 0, far)
	placesWanted(t, desc(0, 0, 1))
	placesWanted(t, desc(0, 3, 1, 0, 1))
	placesWanted(t, desc(0, 4000, far, 4000, far, 0, far))
}

// Size, Places and At by loops.
func TestPlacesOfSome(t *testing.T) {
	r := rand.New(rand.NewSource(2))
	for range 3000 {
		d := someDesc(r)
		want := placesOf(d)
		placesWanted(t, d, want...)
		if n, err := Size(d); n != len(want) || err != api.OK {
			t.Fatalf("Size(%v) = %d, %d; want %d", d, n, err, len(want))
		}
		at := make([]int, len(d.Extents))
		for k, p := range want {
			rest := k
			for dim, e := range d.Extents {
				at[dim], rest = rest%e, rest/e
			}
			if place, err := At(d, at); place != p || err != api.OK {
				t.Fatalf("At(%v, %v) = %d, %d; want %d", d, at, place, err, p)
			}
		}
	}
}

func checkPick(t *testing.T, d api.Desc, lists [][]int, want ...int) {
	t.Helper()
	if l, err := Pick(d, lists); !equal(l, want) || err != api.OK {
		t.Errorf("Pick(%v, %v) = %v, %d; want %v", d, lists, l, err, want)
	}
}

func TestPick(t *testing.T) {
	checkPick(t, desc(7), nil, 7)
	checkPick(t, desc(7), [][]int{}, 7)
	checkPick(t, desc(7, 3, 5), [][]int{{2, 0, 2}}, 17, 7, 17)
	checkPick(t, desc(7, 3, 5), [][]int{nil})
	checkPick(t, desc(7, 0, 5), [][]int{{}})
	checkPick(t, desc(0, 2, 1, 3, 2), [][]int{{1, 0}, {2, 0, 1}}, 5, 4, 1, 0, 3, 2)
	checkPick(t, desc(0, 2, 1, 3, 2), [][]int{{1}, {}})
	checkPick(t, desc(0, 2, 1, 3, 2), [][]int{{}, {1}})
	checkPick(t, desc(0, 2, 1, 2, 2, 2, 4), [][]int{{1, 0}, {1}, {1, 0}}, 7, 6, 3, 2)
	checkPick(t, desc(far, 2, -far), [][]int{{1, 0, 1}}, 0, far, 0)
}

func TestPickOfMany(t *testing.T) {
	d := desc(5, 4, 1, 3, 4)
	for _, c := range []struct {
		first, second int
		want          api.Errno
	}{{4000, 1, api.OK}, {1, 4000, api.OK}, {2000, 2, api.OK}, {63, 63, api.OK}, {4001, 1, api.ErrArg}, {1, 4001, api.ErrArg}, {64, 63, api.ErrArg}, {100000, 100000, api.ErrArg}} {
		l, err := Pick(d, [][]int{make([]int, c.first), make([]int, c.second)})
		n := 0
		if c.want == api.OK {
			n = c.first * c.second
		}
		if err != c.want || len(l) != n {
			t.Errorf("Pick of %d by %d: %d, %d", c.first, c.second, len(l), err)
		}
	}
}

// Bounds are asked ahead of how many combinations there are, in all lists.
func TestPickOutOfBounds(t *testing.T) {
	d := desc(5, 4, 1, 3, 4)
	many := make([]int, 4001)
	for _, lists := range [][][]int{{{4}, {0}}, {{-1}, {0}}, {{0}, {3}}, {{0, 1, 2, 3, 4}, {0}}, {{0}, {0, -1}}, {{}, {3}}, {{4}, {}}, {many, {3}}, {{4}, many}, {many, append(many, -1)}, {{1 << 62}, {0}}} {
		if l, err := Pick(d, lists); len(l) != 0 || err != api.ErrBounds {
			t.Errorf("Pick(%v, ..) = %v, %d", d, l, err)
		}
	}
	if l, err := Pick(desc(5, 0, 1, 3, 4), [][]int{{0}, {}}); len(l) != 0 || err != api.ErrBounds {
		t.Errorf("Pick of none = %v, %d", l, err)
	}
}

// Each combination is At its subscripts.
func TestPickOfSome(t *testing.T) {
	r := rand.New(rand.NewSource(3))
	for range 3000 {
		d := someDesc(r)
		lists := make([][]int, len(d.Extents))
		want := nums(d.Base)
		for dim, e := range d.Extents {
			for range r.Intn(5) {
				if e > 0 {
					lists[dim] = append(lists[dim], r.Intn(e))
				}
			}
			var longer []int
			for _, s := range lists[dim] {
				for _, p := range want {
					longer = append(longer, p+s*d.Strides[dim])
				}
			}
			want = longer
		}
		checkPick(t, d, lists, want...)
	}
}
