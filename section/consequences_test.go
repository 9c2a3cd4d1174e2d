package section

import (
	"math/rand"
	"testing"

	"quadrat/api"
)

// The places of a section of a section are those of its members.
func TestSectionOfSection(t *testing.T) {
	r := rand.New(rand.NewSource(6))
	for range 5000 {
		d := someDesc(r)
		outer := someSubs(r, d)
		c, _ := Cut(d, outer)
		inner := someSubs(r, c)
		x, err := Cut(c, inner)
		if err != api.OK {
			t.Fatalf("Cut(%v, %v) = %v, %d", c, inner, x, err)
		}
		lists := make([][]int, len(outer))
		rank := 0
		for dim, s := range outer {
			members := listOf(s)
			if s.Is {
				lists[dim] = members
				continue
			}
			for _, i := range listOf(inner[rank]) {
				lists[dim] = append(lists[dim], members[i])
			}
			rank++
		}
		want, err := Pick(d, lists)
		if err != api.OK {
			t.Fatalf("Pick(%v, %v): %d", d, lists, err)
		}
		placesWanted(t, x, want...)
	}
}

func TestReverseTwice(t *testing.T) {
	r := rand.New(rand.NewSource(7))
	for range 3000 {
		d := someDesc(r)
		for dim := range d.Extents {
			x, err := Reverse(d, dim)
			if err != api.OK || !Valid(x) {
				t.Fatalf("Reverse(%v, %d) = %v, %d", d, dim, x, err)
			}
			if n, _ := Size(d); n > 0 {
				all := make([]api.Sub, len(d.Extents))
				for i, e := range d.Extents {
					all[i] = triple(0, e-1, 1)
				}
				all[dim] = triple(d.Extents[dim]-1, 0, -1)
				c, _ := Cut(d, all)
				placesWanted(t, x, placesOf(c)...)
			}
			if y, err := Reverse(x, dim); !equalDesc(y, d) || err != api.OK {
				t.Fatalf("%v reversed twice is %v, %d", d, y, err)
			}
		}
	}
}

func TestTransposeTwice(t *testing.T) {
	r := rand.New(rand.NewSource(8))
	for range 3000 {
		d := someDesc(r)
		if len(d.Extents) != 2 {
			continue
		}
		x, err := Transpose(d)
		if err != api.OK || !Valid(x) {
			t.Fatalf("Transpose(%v) = %v, %d", d, x, err)
		}
		for i := range d.Extents[0] {
			for j := range d.Extents[1] {
				here, _ := At(d, nums(i, j))
				if there, err := At(x, nums(j, i)); here != there || err != api.OK {
					t.Fatalf("%d, %d of %v is not there in %v", i, j, d, x)
				}
			}
		}
		if y, err := Transpose(x); !equalDesc(y, d) || err != api.OK {
			t.Fatalf("%v transposed twice is %v, %d", d, y, err)
		}
	}
}

// Cut by numbers alone is At.
func TestCutByNumbers(t *testing.T) {
	r := rand.New(rand.NewSource(9))
	for range 3000 {
		d := someDesc(r)
		ones := make([]int, len(d.Extents))
		l := make([]api.Sub, len(d.Extents))
		for dim, e := range d.Extents {
			ones[dim] = r.Intn(e+3) - 1
			l[dim] = number(ones[dim])
		}
		place, err := At(d, ones)
		c, bad := Cut(d, l)
		if err != bad || !equalDesc(c, desc(place)) {
			t.Fatalf("At(%v, %v) = %d, %d; Cut: %v, %d", d, ones, place, err, c, bad)
		}
	}
}

// Share does not ask which comes first, and each that has places shares with itself; Size is how many there are.
func TestShareAndSize(t *testing.T) {
	r := rand.New(rand.NewSource(10))
	for range 3000 {
		a, b := someDesc(r), someDesc(r)
		ab, _ := Share(a, b)
		ba, _ := Share(b, a)
		aa, _ := Share(a, a)
		n, _ := Size(a)
		l, _ := Places(a)
		if ab != ba || aa != (n > 0) || n != len(l) {
			t.Fatalf("%v and %v: %v, %v; %v of %d, %d", a, b, ab, ba, aa, n, len(l))
		}
	}
}
