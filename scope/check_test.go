package scope

import (
	"testing"

	"quadrat/api"
)

func TestCheckRight(t *testing.T) {
	for _, text := range []string{
		"program p|end",
		"program p|implicit none|x = 1|end", // names of statements are none of its matters
		"module m|integer :: a|end|program p|use m|use m|use m, b => a|real :: a|end", // two by one name, which is not asked
		"subroutine s(a, b)|integer :: b, a|contains|subroutine c(a, b)|integer :: c|end|end",
		"subroutine s|end|program p|contains|subroutine s|end|subroutine p|end|end", // a path is more than a name
		"module m|contains|subroutine s|end|end|module n|contains|subroutine s|end|end",
		"subroutine s(c)|contains|subroutine c|end|end",
		"module c|use b|end|module b|use a|end|module a|end|module d|use c|use b|use a|end",
		"module m|integer :: a|contains|subroutine s|use m|use n|end|end|module n|use m|end",
		"module m|integer :: a|end|module n|use m, only: b => a|end|program p|use n, only: b, c => b|end",
	} {
		checkFault(t, text, 0, "", api.OK)
	}
}

func TestCheckTwice(t *testing.T) {
	checkFault(t, "program p|end|module p|end", 3, "p", api.ErrTwice)
	checkFault(t, "subroutine a|end|subroutine b|end|subroutine b|end|subroutine a|end", 5, "b", api.ErrTwice)
	checkFault(t, "module m|contains|subroutine s|end|subroutine t|end|subroutine s|end|end|module m|end", 7, "s", api.ErrTwice)
	checkFault(t, "module m|integer :: a, b, b, a|end", 1, "b", api.ErrTwice)
	checkFault(t, "module n|end|module m|integer :: a|real :: b(3)|logical :: a|end", 3, "a", api.ErrTwice)
	checkFault(t, "program p|contains|subroutine s|integer :: x|integer :: x|end|end", 3, "x", api.ErrTwice)
	checkFault(t, "module m|integer :: t, s|contains|subroutine s|end|subroutine t|end|end", 1, "t", api.ErrTwice)
	checkFault(t, "subroutine s(a, b, c, b, a)|end", 1, "b", api.ErrTwice)
	checkFault(t, "program p|contains|subroutine s(a, a)|end|end", 3, "a", api.ErrTwice)
}

func TestCheckNone(t *testing.T) {
	checkFault(t, "program p|use m|end|subroutine m|end", 1, "m", api.ErrNone)
	checkFault(t, "program p|use p|end", 1, "p", api.ErrNone)
	checkFault(t, "module m|integer :: a|end|program p|use m|use m, only: a, c => b, d|use n|end", 4, "b", api.ErrNone)
	checkFault(t, "module m|integer :: a|end|program p|use m, x => a, y => x|end", 4, "x", api.ErrNone)
	checkFault(t, "program p|contains|subroutine s|use n|end|end", 3, "n", api.ErrNone)
	checkFault(t, "module m|contains|subroutine s(a)|integer :: b|end|end|module n|use m, only: s, a|end", 7, "a", api.ErrNone)
	checkFault(t, "module m|integer :: a|end|module n|use m, only: b => a|end|program p|use n, only: a|end", 7, "a", api.ErrNone)
	checkFault(t, "module m|integer :: a|end|module n|use m, b => a|end|program p|use n, c => a|end", 7, "a", api.ErrNone)
	checkFault(t, "subroutine s|end|module m|end|program p|use m, only: s|end", 5, "s", api.ErrNone)
}

// Two entities by one name are exported, too.
func TestCheckTwoExported(t *testing.T) {
	checkFault(t, "module a|integer :: x|end|module b|use a|real :: x|end|program p|use b, only: x, y => x|end", 0, "", api.OK)
}

func TestCheckCircle(t *testing.T) {
	checkFault(t, "module d|use a|end|program q|end|module c|use a|end|module b|use c|end|module a|use b|end", 6, "c", api.ErrState)
	checkFault(t, "module a|end|module b|use a|use b|end", 3, "b", api.ErrState)
	checkFault(t, "module a|use a, only: x|integer :: x|end", 1, "a", api.ErrState)
	checkFault(t, "module e|use f|end|module f|use g|use h|end|module g|end|module h|use f|end", 4, "f", api.ErrState)
}

// In a unit, and among units, the order of what is asked.
func TestCheckOrder(t *testing.T) {
	checkFault(t, "module s|end|subroutine s(a, a)|use m|integer :: x, x, c|contains|subroutine c|end|end", 3, "s", api.ErrTwice)
	checkFault(t, "subroutine s(a, a)|use m|integer :: c, x, x|contains|subroutine c|end|end", 1, "x", api.ErrTwice)
	checkFault(t, "subroutine s(a, a)|use m|integer :: c, x|contains|subroutine c|end|end", 1, "c", api.ErrTwice)
	checkFault(t, "subroutine s(a, a)|use m|integer :: x|contains|subroutine c|end|end", 1, "a", api.ErrTwice)
	checkFault(t, "subroutine s(a)|use m|integer :: x|contains|subroutine c(d, d)|end|end", 1, "m", api.ErrNone)
	checkFault(t, "subroutine s(a)|integer :: x|contains|subroutine c(d, d)|end|end|subroutine s|end", 4, "d", api.ErrTwice)
	checkFault(t, "program p|use x|contains|subroutine s|end|subroutine s|end|end", 1, "x", api.ErrNone)
	checkFault(t, "program p|contains|subroutine s|use x|end|subroutine s|end|end", 3, "x", api.ErrNone)
	checkFault(t, "module a|use a|end|program p|use b|end", 4, "b", api.ErrNone)
	checkFault(t, "module a|use a|end|program p|end|subroutine p|end", 6, "p", api.ErrTwice)
	checkFault(t, "program p|use m, only: a|use n|end|module m|end", 1, "a", api.ErrNone)
	checkFault(t, "program p|use n|use m, only: a|end|module m|end", 1, "n", api.ErrNone)
}

// A line is that of a unit, wherever in it the names stand.
func TestCheckLine(t *testing.T) {
	f := parsed(t, "|| module m ; end|  program &|  p|| integer :: i|integer :: i ; end")
	if at, name, err := Check(f); at != 4 || name != "i" || err != api.ErrTwice {
		t.Errorf("%d, %s, %d", at, name, err)
	}
}
