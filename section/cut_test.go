package section

import (
	"math"
	"math/rand"
	"testing"

	"quadrat/api"
)

func checkCut(t *testing.T, d api.Desc, l []api.Sub, want api.Desc) {
	t.Helper()
	if c, err := Cut(d, l); !equalDesc(c, want) || err != api.OK {
		t.Errorf("Cut(%v, %v) = %v, %d; want %v", d, l, c, err, want)
	}
}

func TestCut(t *testing.T) {
	d := desc(0, 4, 1, 3, 4)
	checkCut(t, d, subs(triple(1, 3, 2), number(2)), desc(9, 2, 2))
	checkCut(t, d, subs(number(3), number(2)), desc(11))
	checkCut(t, d, subs(triple(0, 3, 1), triple(0, 2, 1)), d)
	checkCut(t, d, subs(number(1), triple(2, 0, -1)), desc(9, 3, -4))
	checkCut(t, d, subs(triple(3, 0, -2), triple(0, 2, 2)), desc(3, 2, -2, 2, 8))
	checkCut(t, d, subs(triple(0, 2, 3), number(0)), desc(0, 1, 1))
	checkCut(t, desc(7), nil, desc(7))
	checkCut(t, desc(7), []api.Sub{}, desc(7))
	checkCut(t, desc(20, 3, -5), subs(triple(2, 0, -1)), desc(10, 3, 5))
	checkCut(t, desc(50, 2, 1, 3, -10, 2, 100), subs(number(1), triple(0, 2, 2), number(1)), desc(151, 2, -20))
	checkCut(t, desc(0, 2, far), subs(triple(1, 0, -1)), desc(far, 2, -far))
}

// A subscript's other part does not count.
func TestCutByOtherParts(t *testing.T) {
	d := desc(0, 4, 1, 3, 4)
	l := subs(triple(1, 2, 1), number(1))
	l[0].One = 99
	for _, x := range append(noTriples(), api.Triple{Lo: 0, Hi: 9, Step: 1}) {
		l[1].T = x
		checkCut(t, d, l, desc(5, 2, 1))
	}
}

// The last number of a triple need not be one of its members.
func TestCutByFarTriples(t *testing.T) {
	d := desc(3, 6, 2)
	checkCut(t, d, subs(triple(0, 6, 5)), desc(3, 2, 10))
	checkCut(t, d, subs(triple(1, far, far)), desc(5, 1, 2))
	checkCut(t, d, subs(triple(5, -2, -4)), desc(13, 2, -8))
	checkCut(t, d, subs(triple(4, 5-far, -far)), desc(11, 1, 2))
}

// One member has the dimension's own stride.
func TestCutOfOne(t *testing.T) {
	d := desc(3, 6, 2)
	for _, step := range []int{1, -1, 5, -5, far, -far} {
		checkCut(t, d, subs(triple(4, 4, step)), desc(11, 1, 2))
	}
}

// Of no members, wherever they are none, Lo counts as 0 and the stride is the dimension's own.
func TestCutOfNone(t *testing.T) {
	d := desc(3, 6, 2, 5, 20)
	for _, x := range []api.Sub{triple(1, 0, 1), triple(0, 5, -1), triple(9, 1, 2), triple(-1, -2, 1), triple(-far, far, -far), triple(far, -far, 3)} {
		checkCut(t, d, subs(x, number(4)), desc(83, 0, 2))
		checkCut(t, d, subs(number(5), x), desc(13, 0, 20))
		checkCut(t, d, subs(x, triple(4, 0, -2)), desc(83, 0, 2, 3, -40))
		checkCut(t, d, subs(x, x), desc(3, 0, 2, 0, 20))
	}
}

// Of a descriptor of no elements the Base stays; else it could become none.
func TestCutOfNoElements(t *testing.T) {
	for _, base := range []int{0, 3, far, far + 1, math.MaxInt} {
		d := desc(base, 5, -7, 0, 2, 4, far)
		checkCut(t, d, subs(number(4), triple(1, 0, 1), number(3)), desc(base, 0, 2))
		checkCut(t, d, subs(number(4), triple(-9, -8, -5), triple(3, 2, -3)), desc(base, 0, 2, 1, far))
		checkCut(t, d, subs(triple(4, 0, -2), triple(7, 0, 1), triple(1, 0, 1)), desc(base, 3, 14, 0, 2, 0, far))
	}
}

// A section's places are those that lists of its members pick, and it is a descriptor.
func TestCutOfSome(t *testing.T) {
	r := rand.New(rand.NewSource(4))
	for range 5000 {
		d := someDesc(r)
		l := someSubs(r, d)
		c, err := Cut(d, l)
		if err != api.OK || !Valid(c) {
			t.Fatalf("Cut(%v, %v) = %v, %d", d, l, c, err)
		}
		lists := make([][]int, len(l))
		rank := 0
		for dim, s := range l {
			lists[dim] = listOf(s)
			if s.Is {
				continue
			}
			if c.Extents[rank] != len(lists[dim]) {
				t.Fatalf("Cut(%v, %v) = %v", d, l, c)
			}
			rank++
		}
		want, err := Pick(d, lists)
		if err != api.OK || len(c.Extents) != rank {
			t.Fatalf("Cut(%v, %v) = %v", d, l, c)
		}
		placesWanted(t, c, want...)
	}
}
