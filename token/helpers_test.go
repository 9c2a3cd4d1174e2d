package token

import (
	"strings"
	"testing"

	"quadrat/api"
)

// list makes tokens of kinds and texts by turns.
func list(kindsAndTexts ...string) []api.Token {
	var l []api.Token
	for i := 0; i+1 < len(kindsAndTexts); i += 2 {
		l = append(l, api.Token{Kind: kindsAndTexts[i], Text: kindsAndTexts[i+1]})
	}
	return l
}

// equal holds tokens against each other without a function of the package.
func equal(a, b []api.Token) bool {
	if len(a) != len(b) {
		return false
	}
	for i := range a {
		if a[i].Kind != b[i].Kind || a[i].Text != b[i].Text {
			return false
		}
	}
	return true
}

func checkScan(t *testing.T, text string, want []api.Token) {
	t.Helper()
	got, at, err := Scan(text)
	if !equal(got, want) || at != 0 || err != api.OK {
		t.Errorf("Scan(%q) = %q, %d, %d; want %q", text, got, at, err, want)
	}
}

// checkWrong holds that a text is malformed at a place, and that nothing else is told.
func checkWrong(t *testing.T, text string, want int) {
	t.Helper()
	got, at, err := Scan(text)
	if len(got) != 0 || at != want || err != api.ErrForm {
		t.Errorf("Scan(%q) = %q, %d, %d; want place %d and ErrForm", text, got, at, err, want)
	}
}

// some returns n bytes.
func some(b string, n int) string {
	return strings.Repeat(b, n)
}
