package derive

import (
	"reflect"
	"slices"
	"testing"

	"quadrat/api"
)

// Arguments stay as they are, also behind their lengths, and results share nothing with them.
func TestArgumentsStay(t *testing.T) {
	l, same := types(shapes), types(shapes)
	for i := range l {
		l[i].Fields = append(slices.Grow(l[i].Fields, 50), api.Field{Name: "behind"})[:len(l[i].Fields)]
		l[i].Bindings = append(slices.Grow(l[i].Bindings, 50), api.Rename{Local: "behind"})[:len(l[i].Bindings)]
	}
	g, sameGuards := guards("class:base big default"), guards("class:base big default")
	p, samePath := path("in%corner*1"), path("in%corner*1")
	for range 2 {
		Check(l)
		Size(l, "big")
		Offset(l, "big", p)
		Extends(l, "big", "base")
		Binding(l, "big", "show")
		Dispatch(l, "base", "big", "show")
		Select(l, "big", g)
		for _, name := range []string{"base", "point", "box", "empty", "big", "heap"} {
			overwriteResults(l, name)
		}
	}
	for i := range l {
		if !slices.Equal(l[i].Fields, same[i].Fields) || !slices.Equal(l[i].Bindings, same[i].Bindings) {
			t.Errorf("%+v was %+v", l[i], same[i])
		}
		if f := l[i].Fields; f[:len(f)+1][len(f)].Name != "behind" {
			t.Errorf("%s: written behind its fields", l[i].Name)
		}
		if b := l[i].Bindings; b[:len(b)+1][len(b)].Local != "behind" {
			t.Errorf("%s: written behind its bindings", l[i].Name)
		}
		l[i].Fields, l[i].Bindings, same[i].Fields, same[i].Bindings = nil, nil, nil, nil
	}
	if !reflect.DeepEqual(l, same) || !slices.Equal(g, sameGuards) || !slices.Equal(p, samePath) {
		t.Errorf("%+v, %v, %v", l, g, p)
	}
}

// overwriteResults changes all that lists of a type tell.
func overwriteResults(l []api.Type, name string) {
	fields, _ := Fields(l, name)
	for i := range fields {
		fields[i] = api.Field{Name: "overwritten"}
	}
	calls, _ := Finals(l, name)
	for i := range calls {
		calls[i] = api.Place{Name: "overwritten"}
	}
	names, _ := Ancestors(l, name)
	for i := range names {
		names[i] = "overwritten"
	}
}

// Nothing is kept: a table that is changed is another table, and equal calls tell the same.
func TestNothingIsKept(t *testing.T) {
	l := types(shapes)
	checkSize(t, l, "point", 5)
	l[1].Fields[1].Many = 9
	checkSize(t, l, "point", 11)
	checkSize(t, l, "heap", 2*(11+23+1))
	l[1].Name = "dot"
	checkWrong(t, l, "box", api.ErrNone)
	l[1].Name = "point"
	for range 3 {
		checkFields(t, l, "big", "x y w*9 in:box z*1 e:empty*4")
		checkFinals(t, l, "box", "bend*0%pend*0%pend*11")
	}
}
