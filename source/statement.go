package source

import (
	"strconv"
	"strings"
)

const (
	blank         = " "
	goesOn        = "&" // at a line's end, and at the front of the next one
	comment       = '!'
	parts         = ';'
	decimalDigits = "0123456789"
)

// Bytes of lines.
const (
	leastByte = 32
	mostByte  = 126
)

const (
	mostLabel       = 99999
	mostLabelDigits = 5
)

// noQuote stands where no quote is open.
const noQuote byte = 0

// behind returns the quote that is open behind a byte, if one is open ahead of it. A doubled quote ends and begins again, so it needs no case of its own.
func behind(open, b byte) byte {
	switch {
	case open == b:
		return noQuote
	case open == noQuote && (b == '\'' || b == '"'):
		return b
	}
	return open
}

// openBehind returns the quote that is open behind a text, if one is open ahead of it.
func openBehind(text string, open byte) byte {
	for i := range len(text) {
		open = behind(open, text[i])
	}
	return open
}

// findOutside returns the first place of a byte outside of quotes, or the text's length.
func findOutside(text string, open, wanted byte) int {
	for i := range len(text) {
		if open == noQuote && text[i] == wanted {
			return i
		}
		open = behind(open, text[i])
	}
	return len(text)
}

func printable(text string) bool {
	return !strings.ContainsFunc(text, func(r rune) bool { return r < leastByte || r > mostByte })
}

// isStatement reports whether a text is that of a statement, but for its bytes: of these a reader tells the line where they stand.
func isStatement(text string) bool {
	digits, _ := cutLabel(text)
	return text != "" && strings.Trim(text, blank) == text && digits == "" && openBehind(text, noQuote) == noQuote && !strings.HasSuffix(text, goesOn) &&
		findOutside(text, noQuote, parts) == len(text) && findOutside(text, noQuote, comment) == len(text)
}

// cutLabel returns the digits at a text's front that have a blank behind them, and what follows.
func cutLabel(text string) (digits, rest string) {
	rest = strings.TrimLeft(text, decimalDigits)
	digits = text[:len(text)-len(rest)]
	if digits == "" || !strings.HasPrefix(rest, blank) {
		return "", text
	}
	return digits, strings.TrimLeft(rest, blank)
}

// labelOf reads a label.
func labelOf(text string) (label int, ok bool) {
	digits := strings.TrimLeft(text, "0")
	if digits == "" || len(digits) > mostLabelDigits || strings.Trim(digits, decimalDigits) != "" {
		return 0, false
	}
	label, _ = strconv.Atoi(digits)
	return label, true
}
