package section

import (
	"math"
	"testing"

	"quadrat/api"
)

func checkCount(t *testing.T, lo, hi, step, want int) {
	t.Helper()
	if n, err := Count(api.Triple{Lo: lo, Hi: hi, Step: step}); n != want || err != api.OK {
		t.Errorf("Count(%d:%d:%d) = %d, %d; want %d", lo, hi, step, n, err, want)
	}
}

func TestCount(t *testing.T) {
	checkCount(t, 1, 5, 1, 5)
	checkCount(t, 1, 5, 3, 2)
	checkCount(t, 5, 1, -1, 5)
	checkCount(t, 5, 2, -2, 2)
	checkCount(t, 0, 0, 1, 1)
	checkCount(t, 0, 0, -9, 1)
	checkCount(t, 2, 1, 1, 0)
	checkCount(t, 1, 2, -1, 0)
	checkCount(t, 1, 0, 7, 0)
	checkCount(t, -3, 3, 2, 4)
}

// The count is that of the members one by one.
func TestCountOfSmallTriples(t *testing.T) {
	for lo := -9; lo <= 9; lo++ {
		for hi := -9; hi <= 9; hi++ {
			for step := -12; step <= 12; step++ {
				if step != 0 {
					checkCount(t, lo, hi, step, len(membersOf(api.Triple{Lo: lo, Hi: hi, Step: step})))
				}
			}
		}
	}
}

func TestCountOfFarTriples(t *testing.T) {
	checkCount(t, -far, far, 1, 2*far+1)
	checkCount(t, far, -far, -1, 2*far+1)
	checkCount(t, -far, far, far, 3)
	checkCount(t, far, -far, -far, 3)
	checkCount(t, -far, far-1, far, 2)
	checkCount(t, far, -far, 1, 0)
	checkCount(t, -far, far, -far, 0)
	checkCount(t, far, far, -far, 1)
}

// noTriples are triples that are none, by one number each.
func noTriples() (l []api.Triple) {
	for _, n := range []int{-far - 1, far + 1, math.MinInt, math.MaxInt} {
		l = append(l, api.Triple{Lo: n, Hi: 1, Step: 1}, api.Triple{Lo: 1, Hi: n, Step: 1}, api.Triple{Lo: 1, Hi: 1, Step: n})
	}
	return append(l, api.Triple{Lo: 1, Hi: 2}, api.Triple{Lo: 2, Hi: 1}, api.Triple{})
}

func TestCountOfNoTriples(t *testing.T) {
	for _, x := range noTriples() {
		if n, err := Count(x); n != 0 || err != api.ErrArg {
			t.Errorf("Count(%v) = %d, %d", x, n, err)
		}
	}
}
