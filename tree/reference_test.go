package tree

import (
	"strings"
	"testing"

	"quadrat/api"
	"quadrat/token"
)

// Expressions as the chapter says them: each function takes all of its tokens, and tries all places where it may part them.

type slowReading func(l []api.Token) (api.Expr, bool)

// slowPair reads two operands with one of these operators between; where there are several the last one binds least.
func slowPair(l []api.Token, ops string, left, right slowReading) (api.Expr, bool) {
	for at := len(l) - 1; at > 0; at-- {
		if l[at].Kind != "op" || !strings.Contains(ops, " "+l[at].Text+" ") {
			continue
		}
		one, ok := left(l[:at])
		if !ok {
			continue
		}
		if two, ok := right(l[at+1:]); ok {
			return opExpr(l[at].Text, one, two), true
		}
	}
	return api.Expr{}, false
}

func slowOr(l []api.Token) (api.Expr, bool) {
	if e, ok := slowPair(l, " .or. ", slowOr, slowAnd); ok {
		return e, true
	}
	return slowAnd(l)
}

func slowAnd(l []api.Token) (api.Expr, bool) {
	if e, ok := slowPair(l, " .and. ", slowAnd, slowNot); ok {
		return e, true
	}
	return slowNot(l)
}

func slowNot(l []api.Token) (api.Expr, bool) {
	if len(l) > 0 && l[0] == (api.Token{Kind: "op", Text: ".not."}) {
		e, ok := slowNot(l[1:])
		return opExpr(".not.", e), ok
	}
	if e, ok := slowPair(l, " == /= < <= > >= ", slowSum, slowSum); ok {
		return e, true
	}
	return slowSum(l)
}

func slowSum(l []api.Token) (api.Expr, bool) {
	if e, ok := slowPair(l, " + - ", slowSum, slowTerm); ok {
		return e, true
	}
	if len(l) > 0 && l[0].Kind == "op" && (l[0].Text == "+" || l[0].Text == "-") {
		e, ok := slowTerm(l[1:])
		return opExpr(l[0].Text, e), ok
	}
	return slowTerm(l)
}

func slowTerm(l []api.Token) (api.Expr, bool) {
	if e, ok := slowPair(l, " * / ", slowTerm, slowOperand); ok {
		return e, true
	}
	return slowOperand(l)
}

func slowOperand(l []api.Token) (api.Expr, bool) {
	last := len(l) - 1
	switch {
	case last < 0:
		return api.Expr{}, false
	case last == 0 && l[0].Kind == "name":
		return nameExpr(l[0].Text), true
	case last == 0 && l[0].Kind == "int":
		return intExpr(1), l[0].Text == "1"
	case last > 1 && l[0].Text == "(" && l[last].Text == ")":
		return slowOr(l[1:last])
	case last > 1 && l[0].Text == "[" && l[last].Text == "]":
		kids, ok := slowList(l[1:last], slowOr)
		return listExpr(kids...), ok
	case last == 2 && l[0].Kind == "name" && l[1].Text == "(" && l[2].Text == ")":
		return itemExpr(l[0].Text), true
	case last > 2 && l[0].Kind == "name" && l[1].Text == "(" && l[last].Text == ")":
		kids, ok := slowList(l[2:last], slowSubscript)
		return itemExpr(l[0].Text, kids...), ok
	}
	return api.Expr{}, false
}

func slowList(l []api.Token, one slowReading) ([]api.Expr, bool) {
	if e, ok := one(l); ok {
		return exprs(e), true
	}
	for at := range l {
		if l[at].Text != "," {
			continue
		}
		first, ok := one(l[:at])
		if !ok {
			continue
		}
		if rest, ok := slowList(l[at+1:], one); ok {
			return append(exprs(first), rest...), true
		}
	}
	return nil, false
}

// slowMaybe reads an expression, or nothing.
func slowMaybe(l []api.Token) (api.Expr, bool) {
	if len(l) == 0 {
		return missing, true
	}
	return slowOr(l)
}

func slowSubscript(l []api.Token) (api.Expr, bool) {
	if e, ok := slowOr(l); ok {
		return e, true
	}
	for at := range l {
		if l[at].Text != ":" {
			continue
		}
		lo, ok := slowMaybe(l[:at])
		if !ok {
			continue
		}
		if hi, ok := slowMaybe(l[at+1:]); ok {
			return tripleExpr(lo, hi, missing), true
		}
		for then := at + 1; then < len(l); then++ {
			if l[then].Text != ":" {
				continue
			}
			hi, ok := slowMaybe(l[at+1 : then])
			step, good := slowOr(l[then+1:])
			if ok && good {
				return tripleExpr(lo, hi, step), true
			}
		}
	}
	return api.Expr{}, false
}

// slowExpr reads a text; two colons in one token are two.
func slowExpr(text string) (api.Expr, bool) {
	l, _, err := token.Scan(strings.ReplaceAll(text, ":", ": "))
	e, ok := slowOr(l)
	return e, ok && err == api.OK
}

// allOf calls a function with each text of up to so many words.
func allOf(words []string, most int, visit func(string)) {
	var extend func(s string, n int)
	extend = func(s string, n int) {
		visit(s)
		for _, w := range words {
			if n < most {
				extend(s+w+" ", n+1)
			}
		}
	}
	extend("", 0)
}

// All short expressions, over the words that decide.
func TestExprShort(t *testing.T) {
	right := 0
	for words, most := range map[string]int{
		"a + * ( )": 8, "a - == .not. .and.": 7, "a .or. .and. .not. ( )": 6, "a < + / .not. .or. ( )": 6, "a ( ) [ ] , 1": 6, "a( ) : :: , -": 6, "a 1 = ** => % .eqv. ( :": 4,
	} {
		allOf(strings.Fields(words), most, func(text string) {
			want, ok := slowExpr(text)
			if !ok {
				want = api.Expr{}
			}
			got, err := ParseExpr(text)
			if !equal(got, want) || (err == api.OK) != ok || err != api.OK && err != api.ErrForm {
				t.Fatalf("ParseExpr(%q) = %+v, %d; want %+v, %v", text, got, err, want, ok)
			}
			if ok {
				right++
				checkPrinted(t, want)
			}
		})
	}
	if right < 1000 {
		t.Errorf("only %d of them are right", right)
	}
}

// checkPrinted holds that an expression's text has its tree, and none without some of its brackets.
func checkPrinted(t *testing.T, e api.Expr) {
	t.Helper()
	text, err := PrintExpr(e)
	back, bad := slowExpr(text)
	again, wrong := ParseExpr(text)
	if err != api.OK || !bad || wrong != api.OK || !equal(back, e) || !equal(again, e) {
		t.Fatalf("%+v is printed as %q, %d", e, text, err)
	}
	for at := range len(text) {
		if text[at] != '(' || at > 0 && text[at-1] >= 'a' && text[at-1] <= 'z' {
			continue
		}
		end := at + closingOf(text[at:])
		less := text[:at] + " " + text[at+1:end] + " " + text[end+1:]
		if back, ok := slowExpr(less); ok && equal(back, e) {
			t.Fatalf("%q has brackets that are not needed: %q", text, less)
		}
	}
}

// closingOf returns the place of the bracket that closes the first one of a text.
func closingOf(text string) int {
	open := 0
	for at := range len(text) {
		switch text[at] {
		case '(':
			open++
		case ')':
			open--
			if open == 0 {
				return at
			}
		}
	}
	return -1
}
