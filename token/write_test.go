package token

import (
	"math/rand"
	"slices"
	"strings"
	"testing"

	"quadrat/api"
)

func TestWrite(t *testing.T) {
	for want, l := range map[string][]api.Token{
		"":                       nil,
		"a":                      list("name", "a"),
		"a ( 1 : 2 ) = b % c":    list("name", "a", "op", "(", "int", "1", "op", ":", "int", "2", "op", ")", "op", "=", "name", "b", "op", "%", "name", "c"),
		"''":                     list("text", ""),
		"'it''s' 'a\"b' ''''":    list("text", "it's", "text", "a\"b", "text", "'"),
		"1.d0 .and. .true. 1 .5": list("real", "1.d0", "op", ".and.", "logical", ".true.", "int", "1", "real", ".5"),
		"= = : : * *":            list("op", "=", "op", "=", "op", ":", "op", ":", "op", "*", "op", "*"),
		"'  A ' , ' '":           list("text", "  A ", "op", ",", "text", " "),
	} {
		if got, err := Write(l); got != want || err != api.OK {
			t.Errorf("Write(%q) = %q, %d; want %q", l, got, err, want)
		}
	}
	if got, err := Write([]api.Token{}); got != "" || err != api.OK {
		t.Errorf("Write of an empty list = %q, %d", got, err)
	}
}

func TestWriteErrors(t *testing.T) {
	for _, bad := range []api.Token{{}, {Kind: "name"}, {Kind: "name", Text: "A"}, {Kind: "name", Text: "a b"}, {Kind: "int", Text: "-1"}, {Kind: "int", Text: "12345678901"}, {Kind: "real", Text: "1"}, {Kind: "real", Text: "1.D0"}, {Kind: "op", Text: "&"}, {Kind: "op", Text: ".AND."}, {Kind: "logical", Text: ".t."}, {Kind: "text", Text: "\n"}, {Kind: "word", Text: "a"}} {
		for at := range 3 {
			l := slices.Insert(list("name", "a", "text", "b"), at, bad)
			if got, err := Write(l); got != "" || err != api.ErrArg {
				t.Errorf("Write(%q) = %q, %d; want ErrArg", l, got, err)
			}
		}
	}
}

// P4.2: what was written is read back.
func TestScanOfWrite(t *testing.T) {
	r := rand.New(rand.NewSource(2))
	for range 20000 {
		var l []api.Token
		for range r.Intn(8) {
			l = append(l, randomToken(r))
		}
		text, err := Write(l)
		if err != api.OK {
			t.Fatalf("Write(%q): %d", l, err)
		}
		checkScan(t, text, l)
	}
}

// P4.2: each token of Scan is valid, and so can be written again.
func TestScannedAreValid(t *testing.T) {
	r := rand.New(rand.NewSource(3))
	scanned := 0
	for range 100000 {
		s := ""
		for range 1 + r.Intn(6) {
			s += pieces[r.Intn(len(pieces)-2)]
		}
		l, _, err := Scan(s)
		if err != api.OK {
			continue
		}
		scanned++
		for _, x := range l {
			if !Valid(x) || !isToken(x) {
				t.Errorf("%q of %q is not valid", x, s)
			}
		}
		text, err := Write(l)
		if err != api.OK {
			t.Errorf("Write(%q): %d", l, err)
		}
		checkScan(t, text, l)
	}
	if scanned < 10000 {
		t.Errorf("only %d texts have tokens", scanned)
	}
}

// Great and small letters, more blanks, and the other quotes tell the same tokens.
func TestScanOfOtherWriting(t *testing.T) {
	r := rand.New(rand.NewSource(5))
	for range 20000 {
		var l []api.Token
		text := ""
		for range r.Intn(8) {
			x := randomToken(r)
			l = append(l, x)
			as := x.Text
			switch {
			case x.Kind == "text" && r.Intn(2) == 0:
				as = `"` + strings.ReplaceAll(as, `"`, `""`) + `"`
			case x.Kind == "text":
				as = "'" + strings.ReplaceAll(as, "'", "''") + "'"
			case r.Intn(2) == 0:
				as = strings.ToUpper(as)
			}
			text += as + some(" ", 1+r.Intn(3))
		}
		checkScan(t, text, l)
	}
}

// No function changes what it is given, or keeps it.
func TestArgumentsStay(t *testing.T) {
	l := list("name", "a", "text", "it's", "op", "**", "name", "B")
	kept := slices.Clone(l)
	Write(l)
	Write(l[:3])
	Same(l, l[:2])
	Valid(l[1])
	if !slices.Equal(l, kept) {
		t.Errorf("the list has become %q", l)
	}
	first, _, _ := Scan("a + b")
	first[0].Text = "z"
	checkScan(t, "a + b", list("name", "a", "op", "+", "name", "b"))
}
