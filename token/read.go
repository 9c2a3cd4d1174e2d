package token

import (
	"strings"

	"quadrat/api"
)

// Bytes of texts.
const (
	leastByte = 32
	mostByte  = 126
	blank     = ' '
)

// words are the tokens in dots, whose letters may be of any size.
var words = [...]api.Token{
	{Kind: kindOp, Text: ".and."},
	{Kind: kindOp, Text: ".or."},
	{Kind: kindOp, Text: ".not."},
	{Kind: kindOp, Text: ".eqv."},
	{Kind: kindLogical, Text: ".true."},
	{Kind: kindLogical, Text: ".false."},
}

// Signs that are operators. Each pair stands for the longest token where it begins.
var pairs = [...]string{"**", "==", "/=", "<=", ">=", "=>", "::"}

const singles = "+-*/<>=()[],:%"

// runEnd returns where a run of bytes ends that begins at a place, which may be empty.
func runEnd(text string, at int, belongs func(byte) bool) int {
	for at < len(text) && belongs(text[at]) {
		at++
	}
	return at
}

func isDigit(b byte) bool {
	return b >= '0' && b <= '9'
}

func isLetter(b byte) bool {
	return b >= 'a' && b <= 'z' || b >= 'A' && b <= 'Z'
}

// holds reports whether there is a byte at a place, and it is such a one.
func holds(text string, at int, wanted func(byte) bool) bool {
	return at < len(text) && wanted(text[at])
}

// read reads the token at a place, and returns where it ends.
func read(text string, at int) (t api.Token, end int, ok bool) {
	switch first := text[at]; {
	case isLetter(first):
		return readName(text, at)
	case isDigit(first), first == point && holds(text, at+1, isDigit):
		return readNumber(text, at)
	case first == '\'' || first == '"':
		return readText(text, at)
	}
	return readOp(text, at)
}

// inName reports whether a byte may stand in a name behind its first letter.
func inName(b byte) bool {
	return isLetter(b) || isDigit(b) || b == '_'
}

func readName(text string, at int) (t api.Token, end int, ok bool) {
	end = runEnd(text, at, inName)
	if end-at > api.MaxName {
		return api.Token{}, 0, false
	}
	return api.Token{Kind: kindName, Text: strings.ToLower(text[at:end])}, end, true
}

// readText reads a text in quotes: up to a quote that is not doubled.
func readText(text string, at int) (t api.Token, end int, ok bool) {
	quote := text[at]
	isOther := func(b byte) bool { return b != quote }
	isQuote := func(b byte) bool { return b == quote }
	var kept strings.Builder
	for from := at + 1; ; {
		end = runEnd(text, from, isOther)
		if end == len(text) {
			return api.Token{}, 0, false
		}
		kept.WriteString(text[from:end])
		if !holds(text, end+1, isQuote) {
			return api.Token{Kind: kindText, Text: kept.String()}, end + 1, true
		}
		kept.WriteByte(quote)
		from = end + 2
	}
}

// readOp reads what begins neither with a letter or digit nor with a quote: an operator, or a word in dots.
func readOp(text string, at int) (t api.Token, end int, ok bool) {
	if t, ok = wordAt(text, at); ok {
		return t, at + len(t.Text), true
	}
	for _, pair := range pairs {
		if strings.HasPrefix(text[at:], pair) {
			return api.Token{Kind: kindOp, Text: pair}, at + len(pair), true
		}
	}
	if strings.IndexByte(singles, text[at]) < 0 {
		return api.Token{}, 0, false
	}
	return api.Token{Kind: kindOp, Text: text[at : at+1]}, at + 1, true
}

// wordAt returns the word in dots that begins at a place.
func wordAt(text string, at int) (word api.Token, ok bool) {
	for _, w := range words {
		end := at + len(w.Text)
		if end <= len(text) && strings.ToLower(text[at:end]) == w.Text {
			return w, true
		}
	}
	return api.Token{}, false
}
