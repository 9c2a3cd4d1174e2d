package section

import (
	"math/rand"
	"testing"

	"quadrat/api"
)

// copyOf is a descriptor in a memory of its own.
func copyOf(d api.Desc) api.Desc {
	return api.Desc{Base: d.Base, Extents: append([]int{}, d.Extents...), Strides: append([]int{}, d.Strides...)}
}

// overwrite changes a list in all of its memory.
func overwrite(l []int) {
	for i := range l[:cap(l)] {
		l[:cap(l)][i] = -77
	}
}

// Arguments do not change, results are new memory, and no two lists of one result share any.
func TestNewMemory(t *testing.T) {
	r := rand.New(rand.NewSource(11))
	for range 1000 {
		d := someDesc(r)
		l := someSubs(r, d)
		given, cutBy := copyOf(d), append([]api.Sub{}, l...)
		var results []api.Desc
		whole, err := Whole(d.Extents)
		if err == api.OK {
			results = append(results, whole)
		}
		c, _ := Cut(d, l)
		results = append(results, c)
		for dim := range d.Extents {
			x, _ := Reverse(d, dim)
			results = append(results, x)
		}
		if len(d.Extents) == 2 {
			x, _ := Transpose(d)
			results = append(results, x)
		}
		Contiguous(d)
		Share(d, d)
		places, _ := Places(d)
		overwrite(places)
		for _, x := range results {
			before := copyOf(x)
			overwrite(x.Extents)
			if !equal(x.Strides, before.Strides) {
				t.Fatalf("extents of %v share memory with strides", before)
			}
			overwrite(x.Strides)
		}
		if !equalDesc(d, given) || len(l) != len(cutBy) {
			t.Fatalf("%v became %v", given, d)
		}
		for i := range l {
			if l[i] != cutBy[i] {
				t.Fatalf("%v became %v", cutBy, l)
			}
		}
	}
}

func TestPickKeepsLists(t *testing.T) {
	lists := [][]int{{1, 0, 1}, {2, 0}}
	l, _ := Pick(desc(0, 2, 1, 3, 2), lists)
	overwrite(l)
	if !equal(lists[0], nums(1, 0, 1)) || !equal(lists[1], nums(2, 0)) {
		t.Errorf("%v", lists)
	}
	places := nums(3, 1, 3)
	Twice(places)
	if !equal(places, nums(3, 1, 3)) {
		t.Errorf("%v", places)
	}
}

// Next changes subscripts up to the list's length alone.
func TestNextKeepsOthers(t *testing.T) {
	l := nums(1, 1, 1, 8, 9)
	if Next(nums(2, 2, 2), l[:3]) || !equal(l, nums(0, 0, 0, 8, 9)) {
		t.Errorf("%v", l)
	}
	if !Next(nums(2, 2, 2), l[:3]) || !equal(l, nums(1, 0, 0, 8, 9)) {
		t.Errorf("%v", l)
	}
}
