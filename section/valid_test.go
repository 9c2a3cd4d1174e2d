package section

import (
	"math"
	"math/rand"
	"testing"

	"quadrat/api"
)

// noDescs are descriptors that are none.
func noDescs() []api.Desc {
	return []api.Desc{
		desc(-1),
		desc(math.MinInt),
		desc(far + 1),
		desc(math.MaxInt),
		desc(-1, 0, 1),
		desc(0, -1, 1),
		desc(0, math.MinInt, 1),
		desc(0, -1, 1, -1, 1),
		desc(0, 4001, 0),
		desc(0, math.MaxInt, 0),
		desc(0, 4001, 0, 0, 1),
		desc(0, 2001, 0, 2, 0),
		desc(0, 64, 0, 64, 0),
		desc(0, 16, 0, 16, 0, 16, 0),
		desc(0, 1, far+1),
		desc(0, 1, -far-1),
		desc(0, 0, math.MaxInt),
		desc(0, 0, math.MinInt),
		desc(0, 1, 1, 1, far+1),
		desc(0, 2, far, 1, 1, 2, 1),
		desc(0, 2, -1),
		desc(4, 6, -1),
		desc(5, 2, -3, 2, -3),
		desc(1, 2, far),
		desc(far, 2, 1),
		desc(far-4, 6, 1),
		desc(far-5, 2, 3, 2, 3),
		desc(3, 3, -2, 3, 2),
		desc(0, 4000, far),
		desc(math.MaxInt, 2, 1),
		desc(0, 1, 1, 1, 1, 1, 1, 1, 1),
		desc(0, 0, 1, 0, 1, 0, 1, 0, 1),
		{Extents: nums(1)},
		{Strides: nums(1)},
		{Extents: nums(1, 1), Strides: nums(1)},
		{Extents: nums(1), Strides: nums(1, 1)},
		{Extents: nums(0, 1), Strides: nums(1)},
	}
}

func TestValid(t *testing.T) {
	for _, d := range []api.Desc{
		{},
		{Extents: []int{}, Strides: []int{}},
		desc(far),
		desc(0, 4000, 1),
		desc(0, 4000, 0),
		desc(0, 2000, 0, 2, 0),
		desc(0, 10, 0, 20, 0, 20, 0),
		desc(0, 1, 1, 1, 1, 4000, 1),
		desc(0, 0, far),
		desc(0, 0, -far),
		desc(0, 1, far),
		desc(0, 1, -far),
		desc(0, 2, far),
		desc(far, 2, -far),
		desc(5, 6, -1),
		desc(6, 2, -3, 2, -3),
		desc(far-5, 6, 1),
		desc(far-6, 2, 3, 2, 3),
		desc(4, 3, -2, 3, 2),
		desc(0, 2, far, 1, -far, 1, far),
		desc(0, 4000, -1, 4000, -1, 0, -1),
		desc(7, 0, -far, 4000, far, 4000, -far),
		desc(far+1, 0, 1),
		desc(math.MaxInt, 4000, far, 4000, far, 0, far),
	} {
		if !Valid(d) {
			t.Errorf("%v is not valid", d)
		}
	}
	for _, d := range noDescs() {
		if Valid(d) {
			t.Errorf("%v is valid", d)
		}
	}
}

// All places count, and no other ones.
func TestValidByPlaces(t *testing.T) {
	r := rand.New(rand.NewSource(1))
	strides := nums(far, far-1, far/2, far/2+1, far/3, 2, 1, 0)
	for range 30000 {
		d := desc([...]int{0, 1, 2, far / 2, far - 1, far}[r.Intn(6)])
		for range r.Intn(4) {
			d.Extents = append(d.Extents, r.Intn(5))
			d.Strides = append(d.Strides, strides[r.Intn(len(strides))]*(1-2*r.Intn(2)))
		}
		want := true
		for _, p := range placesOf(d) {
			want = want && p >= 0 && p <= far
		}
		if Valid(d) != want {
			t.Fatalf("Valid(%v) is not %v", d, want)
		}
	}
}

func TestWhole(t *testing.T) {
	for _, c := range []struct {
		extents []int
		want    api.Desc
	}{
		{nil, desc(0)},
		{[]int{}, desc(0)},
		{nums(7), desc(0, 7, 1)},
		{nums(4, 3), desc(0, 4, 1, 3, 4)},
		{nums(2, 3, 5), desc(0, 2, 1, 3, 2, 5, 6)},
		{nums(1, 1, 4000), desc(0, 1, 1, 1, 1, 4000, 1)},
		{nums(20, 20, 10), desc(0, 20, 1, 20, 20, 10, 400)},
		{nums(0), desc(0, 0, 1)},
		{nums(4000, 4000, 0), desc(0, 4000, 1, 4000, 4000, 0, 16000000)},
	} {
		d, err := Whole(c.extents)
		if !equalDesc(d, c.want) || err != api.OK || !Valid(d) {
			t.Errorf("Whole(%v) = %v, %d; want %v", c.extents, d, err, c.want)
		}
		want := 0
		for _, p := range placesOf(d) {
			if p != want {
				t.Fatalf("Whole(%v) = %v, which has the place %d as number %d", c.extents, d, p, want)
			}
			want++
		}
	}
}

func TestWholeOfNoExtents(t *testing.T) {
	for _, extents := range [][]int{nums(-1), nums(4001), nums(2, 2001), nums(64, 64), nums(16, 16, 16), nums(0, -1), nums(-1, 0), nums(-1, -1), nums(0, 4001), nums(4001, 0), nums(1, 1, 1, 1), nums(0, 0, 0, 0), nums(math.MaxInt), nums(math.MinInt), nums(math.MaxInt, math.MaxInt)} {
		if d, err := Whole(extents); !isNothing(d) || err != api.ErrArg {
			t.Errorf("Whole(%v) = %v, %d", extents, d, err)
		}
	}
}
