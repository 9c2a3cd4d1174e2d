package source

import (
	"math/rand"
	"regexp"
	"strconv"
	"strings"
	"testing"

	"quadrat/api"
)

// What a statement is, as the chapter's Terms say it, by expressions: nothing of this is shared with the package.
var (
	plainText  = regexp.MustCompile(`^[ -~]+$`)
	quotedText = regexp.MustCompile(`^(?:[^'"!;]|'[^']*'|"[^"]*")*$`)
	noText     = regexp.MustCompile(`^ | $|&$|^[0-9]+ `)
	closed     = regexp.MustCompile(`'[^']*'|"[^"]*"`)
)

func isRight(s api.Line) bool {
	return s.Label >= 0 && s.Label <= 99999 && len(s.Text) <= 8000 && plainText.MatchString(s.Text) && quotedText.MatchString(s.Text) && !noText.MatchString(s.Text)
}

// isOpen tells whether quotes are open behind a text: those that are closed are taken away.
func isOpen(text string) bool {
	return strings.ContainsAny(closed.ReplaceAllString(text, ""), `'"`)
}

// everyText calls do with all texts of at most so many bytes.
func everyText(bytes string, most int, do func(text string)) {
	do("")
	if most == 0 {
		return
	}
	for i := range len(bytes) {
		everyText(bytes, most-1, func(text string) { do(bytes[i:i+1] + text) })
	}
}

// pick returns one of some texts.
func pick(r *rand.Rand, texts ...string) string {
	return texts[r.Intn(len(texts))]
}

func blanks(r *rand.Rand, most int) string {
	return strings.Repeat(" ", r.Intn(most+1))
}

// someText makes the text of a statement.
func someText(r *rand.Rand, most int) string {
	for {
		var b strings.Builder
		for range 1 + r.Intn(most) {
			b.WriteString(pick(r, "x", "y1", "22", " ", "   ", "&", "=", "(a)", "'it''s'", `"!;&"`, "'!'", `';  "'`, "''", `"&"`, "c", "*", "0", "'   '"))
		}
		s := api.Line{Text: b.String()}
		if isRight(s) {
			return s.Text
		}
	}
}

func someLabel(r *rand.Rand) int {
	switch r.Intn(4) {
	case 0:
		return 1 + r.Intn(99999)
	case 1:
		return 1 + r.Intn(12)
	}
	return 0
}

// digitsOf writes a label, sometimes with a 0 ahead, but with at most 5 digits.
func digitsOf(r *rand.Rand, label int) string {
	digits := strings.Repeat("0", r.Intn(2)) + strconv.Itoa(label)
	return digits[max(0, len(digits)-5):]
}

// reading is what one of the readers should give.
type reading func(text string) ([]api.Line, int, api.Errno)

func checkLines(t *testing.T, name string, read reading, text string, want []api.Line) {
	t.Helper()
	l, at, err := read(text)
	if at != 0 || err != api.OK || len(l) != len(want) {
		t.Fatalf("%s of %q: %d statements, %d, %d instead of %d", name, text, len(l), at, err, len(want))
	}
	for i := range want {
		if l[i] != want[i] {
			t.Fatalf("%s of %q: %v instead of %v", name, text, l[i], want[i])
		}
	}
}

func checkError(t *testing.T, name string, read reading, text string, wantAt int, want api.Errno) {
	t.Helper()
	if l, at, err := read(text); len(l) > 0 || at != wantAt || err != want {
		t.Errorf("%s of %q: %v, %d, %d instead of %d, %d", name, text, l, at, err, wantAt, want)
	}
}
