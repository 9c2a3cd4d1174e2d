package derive

import (
	"testing"

	"quadrat/api"
)

// call is a call of a function of a table with the name of a type, and whether it told nothing beside the error.
type call struct {
	name string
	do   func(l []api.Type, name string) (empty bool, err api.Errno)
}

func calls() []call {
	return []call{
		{"Size", func(l []api.Type, name string) (bool, api.Errno) {
			n, err := Size(l, name)
			return n == 0, err
		}},
		{"Offset", func(l []api.Type, name string) (bool, api.Errno) {
			n, kind, err := Offset(l, name, path("x"))
			return n == 0 && kind == "", err
		}},
		{"Offset of nothing", func(l []api.Type, name string) (bool, api.Errno) {
			n, kind, err := Offset(l, name, path("no*-1"))
			return n == 0 && kind == "", err
		}},
		{"Fields", func(l []api.Type, name string) (bool, api.Errno) {
			f, err := Fields(l, name)
			return len(f) == 0, err
		}},
		{"Extends", func(l []api.Type, name string) (bool, api.Errno) {
			is, err := Extends(l, name, name)
			return !is, err
		}},
		{"Extends of the first", func(l []api.Type, name string) (bool, api.Errno) {
			is, err := Extends(l, name, "first")
			return !is, err
		}},
		{"Extends by the first", func(l []api.Type, name string) (bool, api.Errno) {
			is, err := Extends(l, "first", name)
			return !is, err
		}},
		{"Binding", func(l []api.Type, name string) (bool, api.Errno) {
			s, err := Binding(l, name, "b")
			return s == "", err
		}},
		{"Dispatch", func(l []api.Type, name string) (bool, api.Errno) {
			s, err := Dispatch(l, name, name, "b")
			return s == "", err
		}},
		{"Dispatch of the first", func(l []api.Type, name string) (bool, api.Errno) {
			s, err := Dispatch(l, "first", name, "b")
			return s == "", err
		}},
		{"Dispatch of the first without the binding", func(l []api.Type, name string) (bool, api.Errno) {
			s, err := Dispatch(l, "first", name, "no")
			return s == "", err
		}},
		{"Dispatch for the first", func(l []api.Type, name string) (bool, api.Errno) {
			s, err := Dispatch(l, name, "first", "no")
			return s == "", err
		}},
		{"Finals", func(l []api.Type, name string) (bool, api.Errno) {
			f, err := Finals(l, name)
			return len(f) == 0, err
		}},
		{"Select", func(l []api.Type, name string) (bool, api.Errno) {
			n, err := Select(l, name, guards("default"))
			return n == 0, err
		}},
		{"Select by nothing", func(l []api.Type, name string) (bool, api.Errno) {
			n, err := Select(l, name, guards("class:no no"))
			return n == 0, err
		}},
		{"Ancestors", func(l []api.Type, name string) (bool, api.Errno) {
			a, err := Ancestors(l, name)
			return len(a) == 0, err
		}},
	}
}

// What is wrong with a table comes ahead of all else, and is ErrArg whatever it is, also in a type that is not asked for.
func TestWrongTables(t *testing.T) {
	for _, last := range []string{
		"A", "a x*101", "a ~P", "first", "a q q", "a<first x", "a b=>p b=>q", "a<no", "a f:a", "a f:none", "a b=>", "a f:idea", "a<idea", "a " + numbered(21, "f#"),
		"b f:first*100; c g:b*100; d h:c*100", numbered(31, "t# ;") + " z",
	} {
		l := types("first x b=>p ~end; idea abstract d=>; " + last)
		if _, err := Check(l); err == api.OK {
			t.Fatalf("%s is right", last)
		}
		for _, c := range calls() {
			for _, name := range []string{"first", "idea", "no", "", "a"} {
				if empty, err := c.do(l, name); !empty || err != api.ErrArg {
					t.Errorf("%s of %s behind %s: %v, %d", c.name, name, last, empty, err)
				}
			}
		}
	}
}

// Then comes a type that is not there.
func TestNoTypes(t *testing.T) {
	l := types("first x b=>p ~end; other<first y f:first")
	for _, c := range calls() {
		for _, name := range []string{"no", "", "x", "b", "p", "end", "FIRST", "First", "first ", " first", "first\x00", "firs"} {
			if empty, err := c.do(l, name); !empty || err != api.ErrNone {
				t.Errorf("%s of %q: %v, %d", c.name, name, empty, err)
			}
			if empty, err := c.do(nil, name); !empty || err != api.ErrNone {
				t.Errorf("%s of %q in no table: %v, %d", c.name, name, empty, err)
			}
		}
	}
}
