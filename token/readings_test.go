package token

import "testing"

// Where the chapter leaves room, these are the readings that the package keeps to.

// A quote that is doubled never closes, also where a text could end at its first half.
func TestReadingQuotes(t *testing.T) {
	checkWrong(t, "'''", 0)
	checkWrong(t, "x = 'a'' + b", 4)
	checkWrong(t, `"a"" 'b'`, 0)
}

// A number that has a point or an exponent takes no other point: what follows is looked at by itself.
func TestReadingPoints(t *testing.T) {
	checkWrong(t, "1.5.", 3)
	checkWrong(t, "1e5.", 3)
	checkWrong(t, "1.5.e5", 3)
	checkScan(t, "1e5.5", list("real", "1e5", "real", ".5"))
	checkScan(t, "1.5.5", list("real", "1.5", "real", ".5"))
}

// An e or d may be an exponent's, also where none follows; then the number with its point is malformed.
func TestReadingExponents(t *testing.T) {
	checkWrong(t, "x = 1.eq.2", 4)
	checkWrong(t, "x = 1.d", 4)
	checkWrong(t, "x = 1.eqv", 4)
}

// The digits of an exponent are not among the at most 60 of a real.
func TestReadingDigits(t *testing.T) {
	checkScan(t, some("1", 60)+"e123", list("real", some("1", 60)+"e123"))
	checkWrong(t, some("1", 61)+"e123", 0)
}

// Kind8 asks for the small letter of a real's text, and does not look whether it is one.
func TestReadingKind8(t *testing.T) {
	if Kind8("1.D0") || !Kind8("d") {
		t.Error("Kind8 asks for a d")
	}
}
