package token

import (
	"regexp"
	"strings"

	"quadrat/api"
)

// What the chapter says of tokens, as patterns: the tests hold the package against them.
var (
	namePattern     = regexp.MustCompile(`\A[A-Za-z][A-Za-z0-9_]*\z`)
	intPattern      = regexp.MustCompile(`\A[0-9]+\z`)
	realPattern     = regexp.MustCompile(`\A(([0-9]+\.[0-9]*|\.[0-9]+)([eEdD][+-]?[0-9]{1,3})?|[0-9]+[eEdD][+-]?[0-9]{1,3})\z`)
	textPattern     = regexp.MustCompile(`\A('([^']|'')*'|"([^"]|"")*")\z`)
	opPattern       = regexp.MustCompile(`\A(\*\*|==|/=|<=|>=|=>|::|[-+*/<>=()\[\],:%]|\.(?i:and|or|not|eqv)\.)\z`)
	logicalPattern  = regexp.MustCompile(`\A\.(?i:true|false)\.\z`)
	wordAhead       = regexp.MustCompile(`\A\.(?i:and|or|not|eqv|true|false)\.`)
	otherLetter     = regexp.MustCompile(`\A\.[abcf-zABCF-Z]`)
	stuck           = regexp.MustCompile(`\A[A-Za-z0-9_]`)
	foreign         = regexp.MustCompile(`[^ -~]`)
	exponentPattern = regexp.MustCompile(`[ed].*`)
)

// kindOf returns the kind of a token as a text has it, but for how long it may be; "" is none.
func kindOf(s string) string {
	switch {
	case namePattern.MatchString(s):
		return "name"
	case intPattern.MatchString(s):
		return "int"
	case realPattern.MatchString(s):
		return "real"
	case textPattern.MatchString(s):
		return "text"
	case opPattern.MatchString(s):
		return "op"
	case logicalPattern.MatchString(s):
		return "logical"
	}
	return ""
}

// textOf returns what the token of a kind has as its text.
func textOf(kind, s string) string {
	if kind == "text" {
		return strings.ReplaceAll(s[1:len(s)-1], s[:1]+s[:1], s[:1])
	}
	return strings.ToLower(s)
}

// fits reports whether a token of a kind is no longer than it may be.
func fits(kind, text string) bool {
	switch kind {
	case "name":
		return len(text) <= 12
	case "int":
		return len(text) <= 10
	case "real":
		return len(strings.ReplaceAll(exponentPattern.ReplaceAllString(text, ""), ".", "")) <= 60
	}
	return true
}

// longest returns the longest token at a text's front, as it stands there: each front is tried.
func longest(s string) (kind, front string) {
	for n := len(s); n > 0; n-- {
		kind = kindOf(s[:n])
		if kind == "real" && s[n-1] == '.' && (otherLetter.MatchString(s[n-1:]) || wordAhead.MatchString(s[n-1:])) {
			continue
		}
		if kind == "text" && strings.HasPrefix(s[n:], s[:1]) { // its last quote is doubled
			continue
		}
		if kind != "" {
			return kind, s[:n]
		}
	}
	return "", ""
}

// scanSlowly is Scan by the patterns.
func scanSlowly(s string) ([]api.Token, int, api.Errno) {
	if at := foreign.FindStringIndex(s); at != nil {
		return nil, at[0], api.ErrForm
	}
	var l []api.Token
	for at := 0; at < len(s); {
		if s[at] == ' ' {
			at++
			continue
		}
		kind, front := longest(s[at:])
		text := ""
		if kind != "" {
			text = textOf(kind, front)
		}
		number := kind == "int" || kind == "real"
		if kind == "" || !fits(kind, text) || number && stuck.MatchString(s[at+len(front):]) {
			return nil, at, api.ErrForm
		}
		l = append(l, api.Token{Kind: kind, Text: text})
		at += len(front)
	}
	return l, 0, api.OK
}

// isToken is Valid by the patterns.
func isToken(t api.Token) bool {
	if t.Kind == "text" {
		return !foreign.MatchString(t.Text)
	}
	return t.Kind != "" && kindOf(t.Text) == t.Kind && strings.ToLower(t.Text) == t.Text && fits(t.Kind, t.Text)
}
