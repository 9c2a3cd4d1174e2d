package derive

import (
	"math"
	"strings"
	"testing"

	"quadrat/api"
)

func TestSize(t *testing.T) {
	l := types(shapes)
	for name, want := range map[string]int{"base": 1, "point": 5, "box": 11, "empty": 0, "big": 17, "heap": 34} {
		checkSize(t, l, name, want)
	}
	l = types("a x; b y:a*2; c<b x*0 z*1 v*100; d f:c*3 g:c")
	for name, want := range map[string]int{"a": 1, "b": 2, "c": 104, "d": 416} {
		checkSize(t, l, name, want)
	}
}

// The chapter's example says 3: a has one number, b extends it by two of them.
func TestExample(t *testing.T) {
	l := types("a x; b<a y:a*2")
	checkSize(t, l, "b", 3)
	checkOffset(t, l, "b", "x", 0, "")
	checkOffset(t, l, "b", "y*1", 2, "a")
}

func TestOffset(t *testing.T) {
	l := types(shapes)
	for _, c := range []struct {
		name, to string
		offset   int
		kind     string
	}{
		{"base", "", 0, "base"}, {"big", "", 0, "big"}, {"empty", "", 0, "empty"},
		{"base", "x", 0, ""}, {"point", "x", 0, ""}, {"point", "y", 1, ""}, {"point", "w", 2, ""}, {"point", "w*1", 3, ""}, {"point", "w*2", 4, ""},
		{"box", "corner", 0, "point"}, {"box", "corner*1", 5, "point"}, {"box", "corner%y", 1, ""}, {"box", "corner*1%x", 5, ""}, {"box", "corner*1%w*2", 9, ""}, {"box", "n", 10, ""},
		{"big", "x", 0, ""}, {"big", "y", 1, ""}, {"big", "w*2", 4, ""}, {"big", "in", 5, "box"}, {"big", "in%corner*1", 10, "point"}, {"big", "in%corner*1%w*1", 13, ""}, {"big", "in%n", 15, ""}, {"big", "z", 16, ""},
		{"big", "e", 17, "empty"}, {"big", "e*3", 17, "empty"},
		{"heap", "b*1", 17, "big"}, {"heap", "b*1%in%corner%y", 23, ""}, {"heap", "b*1%e*2", 34, "empty"},
	} {
		checkOffset(t, l, c.name, c.to, c.offset, c.kind)
	}
}

// A field behind one without units lies where that lies.
func TestOffsetOfNoUnits(t *testing.T) {
	l := types("a; b<a; c x y:b*100 z; d<c v:a w")
	checkOffset(t, l, "c", "y*99", 1, "b")
	checkOffset(t, l, "d", "z", 1, "")
	checkOffset(t, l, "d", "v", 2, "a")
	checkOffset(t, l, "d", "w", 2, "")
	checkSize(t, l, "d", 3)
}

func TestNoOffset(t *testing.T) {
	l := types(shapes)
	for _, c := range []struct {
		name, to string
		want     api.Errno
	}{
		{"big", "no", api.ErrNone}, {"big", "corner", api.ErrNone}, {"base", "y", api.ErrNone}, {"point", "in", api.ErrNone}, {"empty", "x", api.ErrNone},
		{"big", "big", api.ErrNone}, {"big", "point", api.ErrNone}, {"big", "show", api.ErrNone}, {"big", "X", api.ErrNone}, {"big", "in%z", api.ErrNone}, {"big", "e%x", api.ErrNone},
		{"big", "x%x", api.ErrNone}, {"big", "w*2%x", api.ErrNone}, {"big", "in%n%n", api.ErrNone}, {"big", "no%x", api.ErrNone}, {"big", "no*-1", api.ErrNone}, {"big", "x%no*1", api.ErrNone},
		{"big", "x*1", api.ErrArg}, {"big", "x*-1", api.ErrArg}, {"big", "w*3", api.ErrArg}, {"big", "w*-1", api.ErrArg}, {"big", "z*1", api.ErrArg}, {"big", "e*4", api.ErrArg},
		{"big", "in*1", api.ErrArg}, {"big", "in%corner*2", api.ErrArg}, {"big", "in%corner*1%w*3", api.ErrArg}, {"big", "in*1%n", api.ErrArg},
	} {
		checkNoOffset(t, l, c.name, path(c.to), c.want)
	}
	for _, at := range []int{math.MaxInt, math.MinInt, 1 << 32, 100} {
		checkNoOffset(t, l, "box", []api.Place{{Name: "corner", At: at}}, api.ErrArg)
	}
	checkNoOffset(t, l, "big", []api.Place{{}}, api.ErrNone)
	checkNoOffset(t, l, "big", []api.Place{{Name: "in%corner"}}, api.ErrNone)
}

func TestFields(t *testing.T) {
	l := types(shapes)
	checkFields(t, l, "base", "x")
	checkFields(t, l, "point", "x y w*3")
	checkFields(t, l, "box", "corner:point*2 n")
	checkFields(t, l, "empty", "")
	checkFields(t, l, "big", "x y w*3 in:box z*1 e:empty*4")
	checkFields(t, l, "heap", "b:big*2")
}

func TestAncestors(t *testing.T) {
	l := types(shapes)
	checkAncestors(t, l, "base", "base")
	checkAncestors(t, l, "point", "point base")
	checkAncestors(t, l, "big", "big point base")
	checkAncestors(t, l, "box", "box")
}

func TestExtends(t *testing.T) {
	l := types(shapes)
	lines := map[string]string{"base": "base", "point": "point base", "box": "box", "empty": "empty", "big": "big point base", "heap": "heap"}
	for name, line := range lines {
		for of := range lines {
			want := false
			for _, a := range strings.Fields(line) {
				want = want || a == of
			}
			checkExtends(t, l, name, of, want)
		}
	}
}
