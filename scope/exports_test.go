package scope

import (
	"testing"

	"quadrat/api"
)

// A module exports what it declares, its subroutines, and what it uses, by names.
func TestExports(t *testing.T) {
	f := parsed(t, "module m|integer :: z, b(2)|logical, parameter :: k = .true.|contains|subroutine s(x)|integer :: inside|end|subroutine a|end|end|"+
		"module n|use m, only: z, t => s|real(8) :: own|end|"+
		"module o|use n, u => z|use m, c => z|end|"+
		"module empty|implicit none|end|"+
		"subroutine top|end|program p|end")
	z, b, k := variable("m", "z", api.KInt, 0), variable("m", "b", api.KInt, 1), parameter("m", "k", api.KLogical, 0)
	s, a, own := subroutine("m", "s"), subroutine("m", "a"), variable("n", "own", api.KReal8, 0)
	checkExports(t, f, "m", "a b k s z", a, b, k, s, z)
	checkExports(t, f, "n", "own t z", own, s, z)
	checkExports(t, f, "o", "a b c k own s t u", a, b, z, k, own, s, s, z)
	checkExports(t, f, "empty", "")
}

func TestExportsErrors(t *testing.T) {
	f := parsed(t, "module a|integer :: x, y|end|module b|use a|integer :: x|end|module c|use b|end|module d|use b, only: y|use a, only: x|end|module e|use b, only: z => x|end|"+
		"program p|contains|subroutine a|end|end|subroutine s|end")
	for module, want := range map[string]api.Errno{
		"a": api.OK, "b": api.ErrTwice, "c": api.ErrTwice, "d": api.OK, "e": api.ErrTwice,
		"p": api.ErrNone, "s": api.ErrNone, "p%a": api.ErrNone, "x": api.ErrNone, "": api.ErrNone, "A": api.ErrNone,
	} {
		l, names, err := Exports(f, module)
		if err != want || want != api.OK && (l != nil || names != nil) {
			t.Errorf("Exports(%s) = %v, %v, %d, want %d", module, l, names, err, want)
		}
		if text, err := Write(f, module); err != want || (text == "") != (want != api.OK) {
			t.Errorf("Write(%s) = %q, %d, want %d", module, text, err, want)
		}
	}
}

func TestUnits(t *testing.T) {
	f := parsed(t, "program p|contains|subroutine b|x = 1|end|subroutine a|end|end|module m|contains|subroutine b|y = 2|stop|end|end|subroutine b|end")
	want := []string{"p", "p%b", "p%a", "m", "m%b", "b"}
	l := Units(f)
	if len(l) != len(want) {
		t.Fatalf("%v", l)
	}
	for i, path := range want {
		if l[i] != path {
			t.Errorf("%v", l)
		}
	}
	for path, statements := range map[string]int{"p": 0, "p%b": 1, "p%a": 0, "m": 0, "m%b": 2, "b": 0} {
		u, err := Unit(f, path)
		if err != api.OK || len(u.Body) != statements || u.Name != path[len(path)-1:] {
			t.Errorf("Unit(%s) = %v, %d", path, u, err)
		}
	}
	if u, err := Unit(f, "p"); len(u.Contains) != 2 || u.Contains[0].Body[0].At != 4 || err != api.OK {
		t.Errorf("%v, %d", u, err)
	}
}
