package scope

import (
	"slices"
	"testing"

	"quadrat/api"
)

// Where the chapter leaves room, these are the readings that the package keeps to.

// A file that is not tree.Valid has no units.
func TestReadingNoUnits(t *testing.T) {
	for _, f := range noFiles() {
		if l := Units(f); len(l) > 0 {
			t.Errorf("%v of %+v", l, f)
		}
	}
}

// Units of one path are all told; the path leads to the first one, but what the second one contains stands in the second one.
func TestReadingOnePath(t *testing.T) {
	f := parsed(t, "module m|integer :: a|end|module m|integer :: b|contains|subroutine s|end|end")
	if l := Units(f); !slices.Equal(l, []string{"m", "m", "m%s"}) {
		t.Errorf("%v", l)
	}
	if u, err := Unit(f, "m"); len(u.Decls) != 1 || u.Decls[0].Name != "a" || err != api.OK {
		t.Errorf("%v, %d", u, err)
	}
	checkKnown(t, f, "m", "a")
	checkKnown(t, f, "m%s", "b s")
	checkFound(t, f, []found{{"m%s", "b", variable("m", "b", api.KInt, 0)}})
}

// A module's name means the first module of this name, also behind another unit of this name; a second one is no step of the order.
func TestReadingModule(t *testing.T) {
	f := parsed(t, "subroutine m|end|module m|integer :: a|end|module m|integer :: b|end|program p|use m|end")
	checkExports(t, f, "m", "a", variable("m", "a", api.KInt, 0))
	checkKnown(t, f, "p", "a m")
	checkFault(t, "program m|use m|end|module m|end", 4, "m", api.ErrTwice)
	checkOrder(t, "module b|use a|end|module a|end|module a|use b|end", "a b", api.OK)
}

// Declarations of one name that say the same are one entity; Check finds them all the same.
func TestReadingSameDeclaration(t *testing.T) {
	f := parsed(t, "program p|real :: a(2), a(3)|end")
	checkFound(t, f, []found{{"p", "a", variable("p", "a", api.KReal4, 1)}})
	checkFault(t, "program p|real :: a(2), a(3)|end", 1, "a", api.ErrTwice)
}

// Known has dummy arguments without a declaration, too: they are known, though by an implicit type.
func TestReadingDummies(t *testing.T) {
	f := parsed(t, "subroutine s(a, b)|contains|subroutine t(c)|end|end")
	checkKnown(t, f, "s", "a b s t")
	checkKnown(t, f, "s%t", "a b c s t")
}

// The names that stand twice are told by the place of the second one.
func TestReadingFirstTwice(t *testing.T) {
	checkFault(t, "subroutine s(a, b, b, a)|end", 1, "b", api.ErrTwice)
	checkFault(t, "module m|integer :: a, b|real :: b, a|end", 1, "b", api.ErrTwice)
}

// Of two units of one name the second one's errors are asked in its turn, behind those of what stands ahead of it.
func TestReadingTwoUnits(t *testing.T) {
	checkFault(t, "module m|end|program p|use n|end|module m|end", 3, "n", api.ErrNone)
}

// What a subroutine of a module uses is used by the subroutine, so it makes no circle of modules, and no order.
func TestReadingInnerUses(t *testing.T) {
	text := "module a|integer :: x|contains|subroutine s|use b|use a|end|end|module b|use a|end"
	checkFault(t, text, 0, "", api.OK)
	checkOrder(t, text, "a b", api.OK)
	checkOrder(t, "module a|contains|subroutine s|use c|end|end|program p|use d|end", "a", api.OK)
}

// Where there is a circle as well as a module that is not there, Order tells the circle, which P8.3 names first; Check tells what is not there.
func TestReadingOrderErrors(t *testing.T) {
	text := "module a|use n|end|module b|use b|end"
	checkOrder(t, text, "", api.ErrState)
	checkFault(t, text, 1, "n", api.ErrNone)
}

// What begins with none of the letters i to n is real, also if it is no name.
func TestReadingImplicit(t *testing.T) {
	for _, name := range []string{"", "I", "N", "_", "1", " i", "\xff"} {
		if k := Implicit(name); k != api.KReal4 {
			t.Errorf("Implicit(%q) = %d", name, k)
		}
	}
}

// A module file's entity is one as the terms have it: a subroutine has the rank 0, and is no parameter; a path may be that of a contained unit, but is not empty.
func TestReadingModuleFile(t *testing.T) {
	checkMalformed(t, withVersion("m", "a m a 0 1 0\n"))
	checkMalformed(t, withVersion("m", "a m a 0 0 1\n"))
	checkMalformed(t, withVersion("m", "a  a 0 0 0\n"))
	if _, _, _, l, err := Read(withVersion("m", "a p%q b 1 0 0\n")); len(l) != 1 || l[0] != variable("p%q", "b", api.KInt, 0) || err != api.OK {
		t.Errorf("%v, %d", l, err)
	}
}
