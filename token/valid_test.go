package token

import (
	"math/rand"
	"strings"
	"testing"

	"quadrat/api"
	"quadrat/decimal"
)

var kinds = []string{"name", "int", "real", "text", "op", "logical"}

func TestValid(t *testing.T) {
	for kind, texts := range map[string][]string{
		"name":    {"a", "z9_", "abcdefghijkl", "e5", "true", "and"},
		"int":     {"0", "007", "0123456789"},
		"real":    {"1.", ".5", "1.5", "1e5", "1d-5", "1.e+005", ".0d0", some("1", 60) + ".", some("1", 60) + "e123"},
		"text":    {"", " ", "'", "\"", "it's", "a ''\"\"", "~ !", "A", some("x", 9000)},
		"op":      {"**", "==", "/=", "<=", ">=", "=>", "::", "+", "-", "*", "/", "<", ">", "=", "(", ")", "[", "]", ",", ":", "%", ".and.", ".or.", ".not.", ".eqv."},
		"logical": {".true.", ".false."},
	} {
		for _, text := range texts {
			if !Valid(api.Token{Kind: kind, Text: text}) {
				t.Errorf("%s %q is not valid", kind, text)
			}
			for _, other := range append(kinds, "", "Name", "word", "names") {
				if other != kind && other != "text" && Valid(api.Token{Kind: other, Text: text}) {
					t.Errorf("%s %q is valid", other, text)
				}
			}
		}
	}
}

func TestValidNot(t *testing.T) {
	for kind, texts := range map[string][]string{
		"":        {"", "a", "1", "'a'"},
		"word":    {"", "a"},
		"Text":    {"", "a"},
		"name":    {"", " ", "A", "aB", "1a", "_a", "a b", " a", "a ", "abcdefghijklm", "a-b", "é", "a\n", "'a'", "a.b", "\u212a"},
		"int":     {"", "-1", "+1", "1 ", " 1", "12345678901", "1_", "1a", "1 2", "1.", "0x1"},
		"real":    {"", "1", ".", "1E5", "1.D0", "+1.0", "-1.", "1. ", "e5", ".e5", "1e", "1e+", "1e1234", "1.e5000", "inf", "nan", "1.5.5", "1..", "1._", "1.5x", some("1", 61) + ".", some("1", 31) + "." + some("1", 30)},
		"text":    {"\n", "a\t", "\x7f", "\x80", "é", "a\x00b"},
		"op":      {"", "&", ";", "!", "'", "\"", ".", "===", "= =", " =", "= ", "//", ".And.", ".AND.", ".true.", ".neqv.", "a", "1"},
		"logical": {"", ".True.", ".TRUE.", "true", ".true", ".t.", ".and.", ".true. "},
	} {
		for _, text := range texts {
			if Valid(api.Token{Kind: kind, Text: text}) {
				t.Errorf("%s %q is valid", kind, text)
			}
		}
	}
}

// Valid is what the patterns say, for all short texts and all kinds.
func TestValidShort(t *testing.T) {
	for alphabet, most := range map[string]int{"1.eD+_a": 4, "=></*:&": 3, "'\"aA \n": 3} {
		allTexts(alphabet, most, func(s string) {
			for _, kind := range kinds {
				x := api.Token{Kind: kind, Text: s}
				if Valid(x) != isToken(x) {
					t.Errorf("%s %q: Valid is %v", kind, s, Valid(x))
				}
			}
		})
	}
}

func TestSame(t *testing.T) {
	lists := [][]api.Token{nil, list("name", "a"), list("name", "b"), list("text", "a"), list("name", "a", "name", "a"), list("name", "a", "name", "b"), list("op", "=", "op", "="), list("op", "=="), list("name", "aa"), {{}}, list("word", "A"), list("", "a")}
	for i, a := range lists {
		for j, b := range lists {
			copied := append(make([]api.Token, 0, len(b)+3), b...)
			if Same(a, copied) != (i == j) {
				t.Errorf("Same(%q, %q) is %v", a, b, i != j)
			}
		}
	}
	if !Same(nil, []api.Token{}) || !Same([]api.Token{}, nil) || !Same([]api.Token{}, []api.Token{}) {
		t.Error("an empty list and a nil one are the same")
	}
}

func TestIsName(t *testing.T) {
	for _, s := range []string{"a", "z", "a1", "a_1", "a_", "abcdefghijkl", "end", "x123456789_0"} {
		if !IsName(s) {
			t.Errorf("%q is a name", s)
		}
	}
	for _, s := range []string{"", "A", "aB", "_", "_a", "1", "1a", "a b", " a", "a ", "a.b", "a'", "'a'", "abcdefghijklm", "é", "a\n", "a\x00", ".and.", "=", "a,b", "a=b"} {
		if IsName(s) {
			t.Errorf("%q is no name", s)
		}
	}
	for b := range 256 {
		s := string([]byte{byte(b)})
		small, digit := b >= 'a' && b <= 'z', b >= '0' && b <= '9'
		if IsName(s) != small || IsName("a"+s) != (small || digit || b == '_') {
			t.Errorf("names with byte %d", b)
		}
	}
}

func TestKind8(t *testing.T) {
	for _, s := range []string{"1d0", "1.d0", "1.5d-3", ".5d+100"} {
		if !Kind8(s) {
			t.Errorf("%s is of kind 8", s)
		}
	}
	for _, s := range []string{"1.", ".5", "1.5", "1e0", "1.e0", "1.5e-3", ""} {
		if Kind8(s) {
			t.Errorf("%s is not of kind 8", s)
		}
	}
}

// randomToken returns a token of any kind.
func randomToken(r *rand.Rand) api.Token {
	kind := kinds[r.Intn(len(kinds))]
	bytes := func(most int, alphabet string) string {
		s := ""
		for range r.Intn(most + 1) {
			s += string(alphabet[r.Intn(len(alphabet))])
		}
		return s
	}
	const digits = "0123456789"
	one := digits[r.Intn(10):][:1]
	text := ""
	switch kind {
	case "name":
		text = "abcdez"[r.Intn(6):][:1] + bytes(11, "adez019_")
	case "int":
		text = one + bytes(9, digits)
	case "real":
		exponent := "ed"[r.Intn(2):][:1] + bytes(1, "+-") + one + bytes(2, digits)
		text = [...]string{one + bytes(59, digits) + ".", "." + one + bytes(59, digits), one + bytes(29, digits) + "." + bytes(30, digits), one + bytes(59, digits) + exponent}[r.Intn(4)]
		if !strings.ContainsAny(text, "ed") && r.Intn(2) == 0 {
			text += exponent
		}
	case "text":
		text = bytes(6, "ab'\" 'Z.~1")
	case "op":
		all := strings.Fields("** == /= <= >= => :: + - * / < > = ( ) [ ] , : % .and. .or. .not. .eqv.")
		text = all[r.Intn(len(all))]
	case "logical":
		text = []string{".true.", ".false."}[r.Intn(2)]
	}
	return api.Token{Kind: kind, Text: text}
}

// A real is a decimal text, so that layer 2 reads it.
func TestRealsAreDecimal(t *testing.T) {
	r := rand.New(rand.NewSource(42))
	for range 20000 {
		if x := randomToken(r); !Valid(x) || x.Kind == "real" && !decimal.Is(x.Text) {
			t.Fatalf("%q: %v, %v", x, Valid(x), decimal.Is(x.Text))
		}
	}
}
