package scope

import (
	"testing"

	"quadrat/api"
)

// What a unit declares, with its kinds, ranks and parameters.
func TestFindDeclared(t *testing.T) {
	f := parsed(t, "module m|integer :: i|logical :: l|real :: r|real(8) :: d(1:2)|real(4) :: b(2, 3)|integer, parameter :: k = 3, c(1:1, 1:1, 0:1) = 0|end")
	checkFound(t, f, []found{
		{"m", "i", variable("m", "i", api.KInt, 0)},
		{"m", "l", variable("m", "l", api.KLogical, 0)},
		{"m", "r", variable("m", "r", api.KReal4, 0)},
		{"m", "d", variable("m", "d", api.KReal8, 1)},
		{"m", "b", variable("m", "b", api.KReal4, 2)},
		{"m", "k", parameter("m", "k", api.KInt, 0)},
		{"m", "c", parameter("m", "c", api.KInt, 3)},
	})
}

// Dummy arguments are known with their declaration, or by their first letter, also where nothing is implicit.
func TestFindDummies(t *testing.T) {
	f := parsed(t, "subroutine s(h, i, n, o, x)|implicit none|logical :: x(:)|end|subroutine t(x, y)|y = x|end")
	checkFound(t, f, []found{
		{"s", "h", variable("s", "h", api.KReal4, 0)},
		{"s", "i", variable("s", "i", api.KInt, 0)},
		{"s", "n", variable("s", "n", api.KInt, 0)},
		{"s", "o", variable("s", "o", api.KReal4, 0)},
		{"s", "x", variable("s", "x", api.KLogical, 1)},
		{"t", "x", variable("t", "x", api.KReal4, 0)},
	})
	checkNotFound(t, f, "s", "y", api.ErrName)
	checkKnown(t, f, "s", "h i n o s t x")
	checkKnown(t, f, "t", "s t x y")
}

// A contained unit knows what its host knows, where it does not know the name itself.
func TestFindHost(t *testing.T) {
	f := parsed(t, "module m|real(8) :: u, w|end|"+
		"subroutine h(d, e)|use m|integer :: v, x, z, a(3)|contains|"+
		"subroutine s(x, d)|use m, only: z => u|logical :: v|end|"+
		"subroutine r|end|end")
	checkFound(t, f, []found{
		{"h%s", "v", variable("h%s", "v", api.KLogical, 0)},
		{"h%s", "x", variable("h%s", "x", api.KReal4, 0)},
		{"h%s", "d", variable("h%s", "d", api.KReal4, 0)},
		{"h%s", "z", variable("m", "u", api.KReal8, 0)},
		{"h%s", "e", variable("h", "e", api.KReal4, 0)},
		{"h%s", "a", variable("h", "a", api.KInt, 1)},
		{"h%s", "w", variable("m", "w", api.KReal8, 0)},
		{"h%s", "r", subroutine("h", "r")},
		{"h%s", "s", subroutine("h", "s")},
		{"h%s", "h", subroutine("", "h")},
		{"h%r", "d", variable("h", "d", api.KReal4, 0)},
		{"h%r", "v", variable("h", "v", api.KInt, 0)},
		{"h%r", "q", variable("h%r", "q", api.KReal4, 0)},
		{"h", "v", variable("h", "v", api.KInt, 0)},
	})
	checkKnown(t, f, "h", "a d e h r s u v w x z")
	checkKnown(t, f, "h%s", "a d e h r s u v w x z")
	checkKnown(t, f, "m", "h u w")
}

// What is implicit in a host is none of what it knows: in a contained unit it is another variable.
func TestFindImplicitInHost(t *testing.T) {
	f := parsed(t, "program p|i = 1|contains|subroutine s|i = 2|end|end")
	checkFound(t, f, []found{{"p", "i", variable("p", "i", api.KInt, 0)}, {"p%s", "i", variable("p%s", "i", api.KInt, 0)}})
}

// The subroutines of the file are known last of all, but ahead of what is implicit; its programs and modules are no entities.
func TestFindSubroutines(t *testing.T) {
	f := parsed(t, "subroutine a|end|subroutine b|end|module m|integer :: a|contains|subroutine b|end|subroutine c|end|end|"+
		"program p|use m, only: c|implicit none|contains|subroutine d|real :: c|end|end")
	checkFound(t, f, []found{
		{"a", "a", subroutine("", "a")},
		{"a", "b", subroutine("", "b")},
		{"a", "c", variable("a", "c", api.KReal4, 0)},
		{"a", "m", variable("a", "m", api.KInt, 0)},
		{"a", "p", variable("a", "p", api.KReal4, 0)},
		{"m", "a", variable("m", "a", api.KInt, 0)},
		{"m", "b", subroutine("m", "b")},
		{"m%c", "a", variable("m", "a", api.KInt, 0)},
		{"m%c", "b", subroutine("m", "b")},
		{"p", "a", subroutine("", "a")},
		{"p", "b", subroutine("", "b")},
		{"p", "c", subroutine("m", "c")},
		{"p", "d", subroutine("p", "d")},
		{"p%d", "d", subroutine("p", "d")},
		{"p%d", "b", subroutine("", "b")},
		{"p%d", "c", variable("p%d", "c", api.KReal4, 0)},
	})
	checkNotFound(t, f, "p", "p", api.ErrName)
	checkNotFound(t, f, "p", "m", api.ErrName)
	checkKnown(t, f, "a", "a b")
	checkKnown(t, f, "p", "a b c d")
}

// Implicit none counts in its unit, and in those it contains that have neither uses nor declarations.
func TestFindImplicitNone(t *testing.T) {
	f := parsed(t, "module m|end|program p|implicit none|contains|subroutine a(n)|end|subroutine b|use m|end|subroutine c|integer :: k|end|"+
		"subroutine d|implicit none|use_it = 1|end|end|"+
		"program q|contains|subroutine a|implicit none|end|subroutine b|end|end|"+
		"subroutine s|implicit none|end|subroutine r|end")
	for _, unit := range []string{"p", "p%a", "p%d", "q%a", "s"} {
		checkNotFound(t, f, unit, "j", api.ErrName)
		checkNotFound(t, f, unit, "x", api.ErrName)
	}
	for _, unit := range []string{"p%b", "p%c", "q", "q%b", "r", "m"} {
		checkFound(t, f, []found{{unit, "j", variable(unit, "j", api.KInt, 0)}, {unit, "x", variable(unit, "x", api.KReal4, 0)}})
	}
	checkFound(t, f, []found{{"p%a", "n", variable("p%a", "n", api.KInt, 0)}, {"p%c", "k", variable("p%c", "k", api.KInt, 0)}})
}

// What a use brings: all, with other names, or just some.
func TestFindUses(t *testing.T) {
	f := parsed(t, "module m|integer :: a, b, c|end|"+
		"program all|use m|end|"+
		"program some|use m, x => a, y => b, z => a|end|"+
		"program swapped|use m, a => b, b => a|end|"+
		"program only|use m, only: b, x => a, y => a|end|"+
		"program both|use m, x => a|use m, only: a, y => c|end")
	a, b, c := variable("m", "a", api.KInt, 0), variable("m", "b", api.KInt, 0), variable("m", "c", api.KInt, 0)
	checkFound(t, f, []found{
		{"all", "a", a}, {"all", "b", b}, {"all", "c", c},
		{"some", "x", a}, {"some", "y", b}, {"some", "z", a}, {"some", "c", c}, {"some", "a", variable("some", "a", api.KReal4, 0)},
		{"swapped", "a", b}, {"swapped", "b", a}, {"swapped", "c", c},
		{"only", "b", b}, {"only", "x", a}, {"only", "y", a}, {"only", "a", variable("only", "a", api.KReal4, 0)}, {"only", "c", variable("only", "c", api.KReal4, 0)},
		{"both", "x", a}, {"both", "a", a}, {"both", "b", b}, {"both", "c", c}, {"both", "y", c},
	})
	for unit, want := range map[string]string{"all": "a b c", "some": "c x y z", "swapped": "a b c", "only": "b x y", "both": "a b c x y", "m": "a b c"} {
		checkKnown(t, f, unit, want)
	}
}

// A local name that is the name of something else there means both, until that has another name here.
func TestFindTakenName(t *testing.T) {
	f := parsed(t, "module m|integer :: a, b|end|program p|use m, b => a|end")
	checkFound(t, f, []found{{"p", "a", variable("p", "a", api.KReal4, 0)}})
	checkNotFound(t, f, "p", "b", api.ErrTwice)
	f = parsed(t, "module m|integer :: a, b|end|program p|use m, b => a, x => b|end")
	checkFound(t, f, []found{{"p", "b", variable("m", "a", api.KInt, 0)}, {"p", "x", variable("m", "b", api.KInt, 0)}})
}

// Of the example: what is renamed is known by nothing else.
func TestExample(t *testing.T) {
	f := parsed(t, "module m|logical :: a|end|program p|use m, only: b => a|implicit none|end")
	checkFound(t, f, []found{{"p", "b", variable("m", "a", api.KLogical, 0)}})
	checkNotFound(t, f, "p", "a", api.ErrName)
	checkKnown(t, f, "p", "b")
}

// One entity may come by several ways and names; two by one name are an error where it is asked.
func TestFindTwo(t *testing.T) {
	f := parsed(t, "module a|integer :: x, y, z|end|module b|use a|integer :: y|end|module c|use a, only: x, v => y, w => z|end|"+
		"program p|use a|use b|use c, x => v, z => w|contains|subroutine s|end|subroutine r|integer :: y|end|end|"+
		"program q|use a, only: x|use c, only: x|use b, only: x|end")
	checkFound(t, f, []found{
		{"q", "x", variable("a", "x", api.KInt, 0)},
		{"p", "z", variable("a", "z", api.KInt, 0)},
		{"p%s", "z", variable("a", "z", api.KInt, 0)},
		{"p%r", "y", variable("p%r", "y", api.KInt, 0)},
		{"c", "v", variable("a", "y", api.KInt, 0)},
	})
	for _, unit := range []string{"b", "p", "p%s"} {
		checkNotFound(t, f, unit, "y", api.ErrTwice)
	}
	for _, unit := range []string{"p", "p%s", "p%r"} {
		checkNotFound(t, f, unit, "x", api.ErrTwice)
		checkKnown(t, f, unit, "r s x y z")
	}
}

// Two ways to be known in one unit: declared, a dummy, a subroutine, used.
func TestFindTwoInOneUnit(t *testing.T) {
	f := parsed(t, "module m|integer :: u|contains|subroutine v|end|end|"+
		"subroutine p(a, u)|use m|real :: a, b, v, c|contains|subroutine a|end|subroutine b|end|subroutine c|end|end|"+
		"subroutine q(a)|contains|subroutine a|end|end|"+
		"subroutine r|use m, only: a => u|contains|subroutine a|end|end|"+
		"subroutine s|integer :: a|real :: a|end|"+
		"subroutine t|use m, only: a => u, a => v|end")
	for _, name := range []string{"a", "b", "c", "u", "v"} {
		checkNotFound(t, f, "p", name, api.ErrTwice)
	}
	for _, unit := range []string{"q", "r", "s", "t"} {
		checkNotFound(t, f, unit, "a", api.ErrTwice)
	}
	checkKnown(t, f, "p", "a b c p q r s t u v")
	checkKnown(t, f, "t", "a p q r s t")
}

// A use of a module that is not there, or of what it does not export, makes nothing known.
func TestFindAbsent(t *testing.T) {
	f := parsed(t, "module m|integer :: a|end|program p|use m, only: b, c => d|use n, only: e|use q|implicit none|end|subroutine q|end")
	for _, name := range []string{"a", "b", "c", "d", "e"} {
		checkNotFound(t, f, "p", name, api.ErrName)
	}
	checkKnown(t, f, "p", "q")
}

// Modules that use each other export what comes around.
func TestFindCircle(t *testing.T) {
	f := parsed(t, "module a|use b, y => x|integer :: x|end|module b|use c|end|module c|use a|end|module d|use d, z => w, y => x|integer :: w|end")
	x, w := variable("a", "x", api.KInt, 0), variable("d", "w", api.KInt, 0)
	checkFound(t, f, []found{{"a", "x", x}, {"a", "y", x}, {"b", "x", x}, {"b", "y", x}, {"c", "y", x}, {"d", "w", w}, {"d", "z", w}})
	checkKnown(t, f, "a", "x y")
	checkKnown(t, f, "b", "x y")
	checkKnown(t, f, "d", "w z")
}

// Names that are none mean nothing.
func TestFindNoNames(t *testing.T) {
	f := parsed(t, "program p|end")
	for _, name := range []string{"", "A", "1", "_a", "a b", " a", "a ", "a%b", "abcdefghijklm", "a-b", "ä", ".true.", "'a'", "a\n"} {
		checkNotFound(t, f, "p", name, api.ErrName)
	}
	checkFound(t, f, []found{{"p", "abcdefghijkl", variable("p", "abcdefghijkl", api.KReal4, 0)}, {"p", "l_2", variable("p", "l_2", api.KInt, 0)}})
}

func TestImplicit(t *testing.T) {
	for c := byte('a'); c <= 'z'; c++ {
		want := api.KReal4
		if c >= 'i' && c <= 'n' {
			want = api.KInt
		}
		for _, name := range []string{string([]byte{c}), string([]byte{c, 'i'}), string([]byte{c, 'x'})} {
			if k := Implicit(name); k != want {
				t.Errorf("Implicit(%s) = %d", name, k)
			}
		}
	}
}
