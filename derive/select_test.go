package derive

import (
	"strconv"
	"testing"

	"quadrat/api"
)

func TestSelect(t *testing.T) {
	l := types(shapes + "; great<big; other<point")
	for _, c := range []struct {
		dynamic, guards string
		want            int
	}{
		{"big", "", -1}, {"big", "point", -1}, {"big", "class:box class:great great", -1}, {"point", "class:big", -1},
		{"big", "default", 0}, {"big", "point default", 1}, {"big", "box class:box default class:heap", 2},
		{"big", "class:base", 0}, {"big", "class:base class:point", 1}, {"big", "class:point class:base", 0}, {"big", "class:base class:big class:point", 1},
		{"big", "class:big big", 1}, {"big", "big class:big", 0}, {"big", "default class:big class:base big", 3},
		{"big", "default class:base", 1}, {"big", "class:base default", 0}, {"big", "point base class:base", 2},
		{"great", "class:base class:point class:other class:big", 3}, {"great", "big class:point", 1}, {"great", "other great", 1},
		{"other", "class:big class:point class:base", 1}, {"point", "class:big class:base point", 2},
		{"empty", "class:empty default", 0}, {"empty", "empty class:empty", 0}, {"empty", "class:empty empty", 1},
	} {
		checkSelect(t, l, c.dynamic, c.guards, c.want, api.OK)
	}
}

// Of equal guards the first is taken.
func TestSelectEqual(t *testing.T) {
	l := types(shapes)
	checkSelect(t, l, "big", "class:base class:base class:box", 0, api.OK)
	checkSelect(t, l, "big", "class:base class:point class:base class:point", 1, api.OK)
	checkSelect(t, l, "big", "box big big class:big", 1, api.OK)
	checkSelect(t, l, "big", "box default default", 1, api.OK)
	checkSelect(t, l, "big", "class:default default", 0, api.OK)
	checkSelect(t, l, "big", "default class:default", 0, api.OK)
	checkSelect(t, l, "big", "class:default class:base", 1, api.OK)
}

func TestNoSelect(t *testing.T) {
	l := types(shapes)
	checkSelect(t, l, "no", "", 0, api.ErrNone)
	checkSelect(t, l, "", "default", 0, api.ErrNone)
	checkSelect(t, l, "big", "big no", 0, api.ErrNone)
	checkSelect(t, l, "big", "class:no big", 0, api.ErrNone)
	checkSelect(t, l, "big", "default class:BIG", 0, api.ErrNone)
	checkSelect(t, l, "base", "", 0, api.ErrType)
	checkSelect(t, l, "heap", "default class:heap heap", 0, api.ErrType)
	checkSelect(t, l, "base", "base class:no", 0, api.ErrNone)
	checkSelect(t, l, "no", "no", 0, api.ErrNone)
}

// In the longest line that a table has, each class that is nearer is taken, and just the type ahead of all.
func TestSelectLongLine(t *testing.T) {
	l := []api.Type{{Name: "t0"}}
	text, all := "class:t0", "default class:t0"
	for i := 1; i < 30; i++ {
		name := "t" + strconv.Itoa(i)
		l = append(l, api.Type{Name: name, Parent: l[i-1].Name})
		text += " class:" + name
		all += " class:" + name
		checkSelect(t, l, name, text, i, api.OK)
		checkSelect(t, l, name, all+" "+name, i+2, api.OK)
	}
	checkSelect(t, l, "t0", text, 0, api.OK)
}
