package section

import (
	"math"
	"math/rand"
	"testing"

	"quadrat/api"
)

func TestContiguous(t *testing.T) {
	for _, c := range []struct {
		d    api.Desc
		want bool
	}{
		{desc(9), true}, {desc(9, 5, 1), true}, {desc(9, 5, 2), false}, {desc(9, 5, -1), false}, {desc(9, 5, 0), false},
		{desc(9, 1, 7), true}, {desc(9, 1, -7), true}, {desc(9, 1, 0, 1, far), true},
		{desc(9, 0, 7), true}, {desc(9, 0, 7, 3, 5), true}, {desc(9, 3, 5, 0, -7), true},
		{desc(9, 2, 1, 3, 2), true}, {desc(9, 2, 1, 3, 3), false}, {desc(9, 2, 1, 3, 1), false}, {desc(9, 2, 3, 3, 1), false},
		{desc(9, 1, 7, 3, 1), true}, {desc(9, 3, 1, 1, 7), true}, {desc(9, 2, 1, 1, 99, 3, 2), true}, {desc(9, 2, 1, 2, 2, 2, 4), true},
		{desc(9, 2, 1, 2, 2, 2, 5), false}, {desc(9, 2, 1, 2, 2, 2, 3), false}, {desc(9, 2, -1, 2, 3), false},
		{desc(0, 4000, 1), true}, {desc(0, 2, 1, 2, far-1), false},
	} {
		if is, err := Contiguous(c.d); is != c.want || err != api.OK {
			t.Errorf("Contiguous(%v) = %v, %d", c.d, is, err)
		}
	}
}

func TestTranspose(t *testing.T) {
	for _, c := range [][2]api.Desc{
		{desc(9, 2, 1, 3, 2), desc(9, 3, 2, 2, 1)},
		{desc(0, 1, 5, 4, 0), desc(0, 4, 0, 1, 5)},
		{desc(6, 0, 1, 3, -7), desc(6, 3, -7, 0, 1)},
		{desc(math.MaxInt, 0, 1, 0, 2), desc(math.MaxInt, 0, 2, 0, 1)},
	} {
		if x, err := Transpose(c[0]); !equalDesc(x, c[1]) || err != api.OK {
			t.Errorf("Transpose(%v) = %v, %d", c[0], x, err)
		}
	}
}

func TestReverse(t *testing.T) {
	for _, c := range []struct {
		d    api.Desc
		dim  int
		want api.Desc
	}{
		{desc(9, 5, 1), 0, desc(13, 5, -1)},
		{desc(9, 5, -2), 0, desc(1, 5, 2)},
		{desc(9, 1, 7), 0, desc(9, 1, -7)},
		{desc(9, 4, 0), 0, desc(9, 4, 0)},
		{desc(0, 2, far), 0, desc(far, 2, -far)},
		{desc(0, 2, 1, 3, 2), 0, desc(1, 2, -1, 3, 2)},
		{desc(0, 2, 1, 3, 2), 1, desc(4, 2, 1, 3, -2)},
		{desc(0, 2, 1, 3, 2, 2, 10), 2, desc(10, 2, 1, 3, 2, 2, -10)},
		{desc(9, 0, 7), 0, desc(9, 0, -7)},
		{desc(9, 0, 7, 5, -3), 1, desc(9, 0, 7, 5, 3)},
		{desc(9, 0, 7, 5, -3), 0, desc(9, 0, -7, 5, -3)},
		{desc(math.MaxInt, 4000, far, 0, -far), 0, desc(math.MaxInt, 4000, -far, 0, -far)},
	} {
		if x, err := Reverse(c.d, c.dim); !equalDesc(x, c.want) || err != api.OK {
			t.Errorf("Reverse(%v, %d) = %v, %d; want %v", c.d, c.dim, x, err, c.want)
		}
	}
}

// shareByPairs holds each place against each.
func shareByPairs(a, b api.Desc) bool {
	for _, p := range placesOf(a) {
		for _, q := range placesOf(b) {
			if p == q {
				return true
			}
		}
	}
	return false
}

func TestShare(t *testing.T) {
	for _, c := range []struct {
		a, b api.Desc
		want bool
	}{
		{desc(4), desc(4), true}, {desc(4), desc(5), false}, {desc(far), desc(far), true}, {desc(0), desc(0, 5, 3), true},
		{desc(0, 3, 2), desc(1, 3, 2), false}, {desc(0, 3, 2), desc(4, 3, 2), true}, {desc(0, 3, 2), desc(5, 3, -2), false},
		{desc(0, 5, 6), desc(4, 5, 9), false}, {desc(0, 5, 6), desc(3, 5, 9), true},
		{desc(0, 5, 1), desc(5, 5, 1), false}, {desc(0, 5, 1), desc(9, 6, -1), true},
		{desc(0, 0, 1), desc(0), false}, {desc(0), desc(0, 0, 1), false}, {desc(0, 0, 1), desc(0, 0, 1), false}, {desc(0, 0, 1, 3, 1), desc(0, 3, 1), false},
		{desc(0, 2, 1, 2, 10), desc(2, 8, 1), false}, {desc(0, 2, 1, 2, 10), desc(2, 9, 1), true},
		{desc(0, 2, far), desc(1, 4000, 1), false}, {desc(0, 2, far), desc(far), true},
	} {
		if is, err := Share(c.a, c.b); is != c.want || err != api.OK {
			t.Errorf("Share(%v, %v) = %v, %d", c.a, c.b, is, err)
		}
	}
	r := rand.New(rand.NewSource(5))
	for range 3000 {
		a, b := someDesc(r), someDesc(r)
		if is, err := Share(a, b); is != shareByPairs(a, b) || err != api.OK {
			t.Fatalf("Share(%v, %v) = %v, %d", a, b, is, err)
		}
	}
}

// checkNext looks at one step.
func checkNext(t *testing.T, extents, from, to []int, want bool) {
	t.Helper()
	e, l := append([]int{}, extents...), append([]int{}, from...)
	if is := Next(e, l); is != want || !equal(l, to) || !equal(e, extents) {
		t.Errorf("Next(%v, %v) = %v, with %v and %v", extents, from, is, e, l)
	}
}

func TestNext(t *testing.T) {
	checkNext(t, nums(3), nums(0), nums(1), true)
	checkNext(t, nums(3), nums(2), nums(0), false)
	checkNext(t, nums(1), nums(0), nums(0), false)
	checkNext(t, nums(2, 3), nums(0, 0), nums(1, 0), true)
	checkNext(t, nums(2, 3), nums(1, 0), nums(0, 1), true)
	checkNext(t, nums(2, 3), nums(1, 2), nums(0, 0), false)
	checkNext(t, nums(2, 3), nums(0, 2), nums(1, 2), true)
	checkNext(t, nums(2, 2, 2), nums(1, 1, 0), nums(0, 0, 1), true)
	checkNext(t, nums(2, 2, 2), nums(1, 0, 1), nums(0, 1, 1), true)
	checkNext(t, nums(1, 1, 2), nums(0, 0, 0), nums(0, 0, 1), true)
	checkNext(t, nil, nil, nil, false)
	// no descriptor is asked for
	checkNext(t, nums(math.MaxInt), nums(math.MaxInt-2), nums(math.MaxInt-1), true)
	checkNext(t, nums(math.MaxInt), nums(math.MaxInt-1), nums(0), false)
	checkNext(t, nums(2, 2, 2, 2, 2), nums(1, 1, 1, 1, 0), nums(0, 0, 0, 0, 1), true)
}

// What is no list of subscripts stays.
func TestNextOfOthers(t *testing.T) {
	for _, c := range [][2][]int{
		{nums(3), nums(3)}, {nums(3), nums(-1)}, {nums(3), nums(math.MaxInt)}, {nums(3), nums(math.MinInt)}, {nums(0), nums(0)}, {nums(-1), nums(-1)}, {nums(-1), nums(0)}, {nums(math.MinInt), nums(0)},
		{nums(2, 3), nums(0, 3)}, {nums(2, 3), nums(1, 3)}, {nums(2, 3), nums(2, 1)}, {nums(2, 3), nums(1, -1)}, {nums(2, 3), nums(-1, 1)},
		{nums(2, 0), nums(1, 0)}, {nums(0, 2), nums(0, 1)}, {nums(2, 2, 2), nums(1, 1, 2)}, {nums(2, 2, 2), nums(0, 1, 2)},
		{nums(2, 3), nums(1)}, {nums(2), nums(1, 2)}, {nil, nums(1)}, {nums(2), nil}, {nil, nums(0, 5)}, {nums(2, 2), nums(1, 1, 1)}, {nums(2, 2, 2), nums(1, 1)},
	} {
		checkNext(t, c[0], c[1], c[1], false)
	}
}

// From 0 on, all subscripts come in the order of places.
func TestNextOfAll(t *testing.T) {
	for _, extents := range [][]int{nums(5), nums(2, 3), nums(3, 1, 4), nums(1, 1), nums(2, 3, 1, 2)} {
		all := 1
		for _, e := range extents {
			all *= e
		}
		l := make([]int, len(extents))
		for k := range all {
			rest := k
			for dim, e := range extents {
				if l[dim] != rest%e {
					t.Fatalf("number %d of %v is %v", k, extents, l)
				}
				rest /= e
			}
			if Next(extents, l) != (k < all-1) {
				t.Fatalf("%v ends at number %d", extents, k)
			}
		}
		if !equal(l, make([]int, len(extents))) {
			t.Errorf("behind all of %v are %v", extents, l)
		}
	}
}

// Subscripts may lie in the memory of the extents: these count as they were.
func TestNextInOneMemory(t *testing.T) {
	for _, c := range []struct {
		memory   []int // the extents are all but the last one, the subscripts all but the first one
		want     []int
		wantNext bool
	}{
		{nums(4, 3, 1), nums(4, 0, 2), true},
		{nums(4, 3, 2), nums(4, 0, 0), false},
		{nums(4, 2, 1), nums(4, 3, 1), true},
		{nums(5, 4, 3, 1), nums(5, 0, 0, 2), true},
		{nums(2, 1, 2), nums(2, 1, 2), false},
	} {
		m := append([]int{}, c.memory...)
		if is := Next(m[:len(m)-1], m[1:]); is != c.wantNext || !equal(m, c.want) {
			t.Errorf("%v: %v, %v", c.memory, is, m)
		}
	}
	m := nums(1, 1)
	if Next(m, m) || !equal(m, nums(1, 1)) {
		t.Errorf("extents of themselves: %v", m)
	}
}

func TestTwice(t *testing.T) {
	for _, c := range []struct {
		l    []int
		want bool
	}{
		{nil, false}, {[]int{}, false}, {nums(0), false}, {nums(0, 0), true}, {nums(1, 2, 3), false}, {nums(1, 2, 1), true}, {nums(3, 1, 2, 2), true},
		{nums(-1, 1), false}, {nums(-1, -1), true}, {nums(math.MinInt, math.MaxInt, 0), false}, {nums(math.MinInt, 5, math.MinInt), true},
	} {
		if Twice(c.l) != c.want {
			t.Errorf("Twice(%v) is not %v", c.l, c.want)
		}
	}
	many := make([]int, 20000)
	for i := range many {
		many[i] = i * 7919 % 20011
	}
	if Twice(many) {
		t.Error("many that differ are twice")
	}
	many[19999] = many[0]
	if !Twice(many) {
		t.Error("the last one is the first one")
	}
}
