package source

import (
	"strings"
	"testing"

	"quadrat/api"
)

// Where the chapter leaves room, these are the readings that the package keeps to.

// A statement of the new form begins where its first byte stands: blanks and the & ahead of it are none of it.
func TestReadingBegin(t *testing.T) {
	checkLines(t, "New", New, "a; &\n b", []api.Line{{Text: "a", At: 1}, {Text: "b", At: 2}})
	checkLines(t, "New", New, "  &\n\n& b", []api.Line{{Text: "b", At: 3}})
	checkLines(t, "New", New, "a; 10 &\n b", []api.Line{{Text: "a", At: 1}, {Label: 10, Text: "b", At: 1}})
	checkError(t, "New", New, "a; &\n 'b", 2, api.ErrForm)
}

// A line that is one & alone goes on, and is what the line ahead goes on in.
func TestReadingAlone(t *testing.T) {
	checkLines(t, "New", New, "x&\n&\n&y", []api.Line{{Text: "xy", At: 1}})
	checkLines(t, "New", New, "x&\n  & ! z\ny", []api.Line{{Text: "x y", At: 1}})
	checkLines(t, "New", New, "x = 'a&\n&\n&b'", []api.Line{{Text: "x = 'ab'", At: 1}})
}

// Blanks at the end of a statement are none of it, so its label needs something behind them.
func TestReadingDigits(t *testing.T) {
	checkLines(t, "New", New, "10 ; 20 ! x\n30   ", []api.Line{{Text: "10", At: 1}, {Text: "20", At: 1}, {Text: "30", At: 2}})
	checkLines(t, "New", New, "0000012 x", []api.Line{{Label: 12, Text: "x", At: 1}})
}

// A text that no statement has is at the line where the statement begins.
func TestReadingText(t *testing.T) {
	checkError(t, "Old", Old, "      x\n     &;y", 1, api.ErrForm)
	checkError(t, "New", New, "x\ny &\nz &&\n;", 2, api.ErrForm)
}

// What goes on goes on, also where something is wrong with its line.
func TestReadingWrong(t *testing.T) {
	checkError(t, "Old", Old, "      x = 'a\n    1&b'", 2, api.ErrForm)
	checkError(t, "Old", Old, "      x = 'a\n  a  &b'", 2, api.ErrForm)
	checkError(t, "New", New, "x = 'a&\nb", 1, api.ErrForm)
	checkError(t, "New", New, "x = 'a&\n! b'", 1, api.ErrForm)
}

// A filled text may be longer than the text it comes of.
func TestReadingFilled(t *testing.T) {
	lines := (api.MaxText - 9) / 7
	checkLines(t, "Old", Old, "      x\n"+strings.Repeat("     &\n", lines-1)+"     &y", []api.Line{{Text: "x" + strings.Repeat(" ", 66*lines-1) + "y", At: 1}})
}
