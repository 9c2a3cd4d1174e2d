package section

import (
	"math"
	"testing"

	"quadrat/api"
)

// Where the chapter leaves room, these are the readings that the package keeps to.

// Of a descriptor of no elements no place is asked for: its Base may be any from 0 on.
func TestReadingBase(t *testing.T) {
	for _, d := range []api.Desc{desc(far+1, 0, 1), desc(math.MaxInt, 5, -far, 0, far)} {
		if !Valid(d) {
			t.Errorf("%v is not valid", d)
		}
	}
}

// Behind an extent of 0 the strides of a whole array are 0: the product of the extents ahead, as ever.
func TestReadingWhole(t *testing.T) {
	d, err := Whole(nums(3, 0, 5))
	if !equalDesc(d, desc(0, 3, 1, 0, 3, 5, 0)) || err != api.OK {
		t.Errorf("%v, %d", d, err)
	}
}

// The Base that stays is that of a descriptor that is cut. A section of none of one that has elements lies where its first element would.
func TestReadingCutOfNone(t *testing.T) {
	checkCut(t, desc(1, 4, 2, 3, 10), subs(triple(3, 2, 1), number(2)), desc(21, 0, 2))
	checkCut(t, desc(1, 4, 2, 0, 10), subs(number(3), triple(1, 0, 1)), desc(1, 0, 10))
}

// A stride times a Step is a section's stride, also where no descriptor has such a one: that happens only where there are no elements.
func TestReadingCutStride(t *testing.T) {
	c, err := Cut(desc(0, 5, far, 0, 1), subs(triple(0, 4, 2), triple(1, 0, 1)))
	if !equalDesc(c, desc(0, 3, 2*far, 0, 1)) || err != api.OK || Valid(c) {
		t.Errorf("%v, %d", c, err)
	}
}

// The combinations on the way are those of the first lists, from the left: an empty list behind too many does not help, one ahead does.
func TestReadingPick(t *testing.T) {
	d := desc(0, 2, 1, 2, 2, 2, 4)
	many := make([]int, 4000)
	for _, c := range []struct {
		lists [][]int
		want  api.Errno
	}{
		{[][]int{many, {0, 1}, {}}, api.ErrArg},
		{[][]int{many, many, {}}, api.ErrArg},
		{[][]int{append(many, 0), {}, {}}, api.ErrArg},
		{[][]int{many, {}, many}, api.OK},
		{[][]int{{}, many, many}, api.OK},
		{[][]int{many, {0}, {}}, api.OK},
	} {
		if l, err := Pick(d, c.lists); len(l) != 0 || err != c.want {
			t.Errorf("%d by %d by %d: %v, %d", len(c.lists[0]), len(c.lists[1]), len(c.lists[2]), l, err)
		}
	}
}

// Lists of different lengths stay, as subscripts out of extents do. No subscripts have no next ones.
func TestReadingNext(t *testing.T) {
	checkNext(t, nums(2, 2), nums(1), nums(1), false)
	checkNext(t, nums(2), nums(1, 1), nums(1, 1), false)
	checkNext(t, nil, nil, nil, false)
}
