package token

import (
	"math/rand"
	"testing"

	"quadrat/api"
)

func TestScanExample(t *testing.T) {
	want := list("name", "a", "op", "(", "int", "1", "op", ":", "int", "2", "op", ")", "op", "=", "name", "b", "op", "%", "name", "c")
	if len(want) != 10 {
		t.Fatal("the example has 10 tokens")
	}
	checkScan(t, "a(1:2)=b%c", want)
	checkScan(t, "  a ( 1 : 2 ) = b  %c ", want)
	checkScan(t, "A(1:2)=B%C", want)
}

func TestScanBlanks(t *testing.T) {
	checkScan(t, "", nil)
	checkScan(t, " ", nil)
	checkScan(t, some(" ", 100), nil)
	checkScan(t, " x ", list("name", "x"))
	checkScan(t, "a b", list("name", "a", "name", "b"))
	checkScan(t, "1 2", list("int", "1", "int", "2"))
	checkScan(t, "= =", list("op", "=", "op", "="))
	checkScan(t, "* * : :", list("op", "*", "op", "*", "op", ":", "op", ":"))
	checkScan(t, "1 e5", list("int", "1", "name", "e5"))
	checkScan(t, "1e5 5", list("real", "1e5", "int", "5"))
	checkScan(t, "1 .5", list("int", "1", "real", ".5"))
	checkScan(t, "'a' 'b'", list("text", "a", "text", "b"))
}

func TestScanNames(t *testing.T) {
	for text, want := range map[string]string{
		"a": "a", "Z": "z", "a1": "a1", "a_": "a_", "A__9z": "a__9z", "e5": "e5", "d": "d", "end": "end", "true": "true", "eqv": "eqv",
		"abcdefghijkl": "abcdefghijkl", "ABCDEFGHIJKL": "abcdefghijkl", "a_1_2_3_4_5_": "a_1_2_3_4_5_",
	} {
		checkScan(t, text, list("name", want))
	}
	checkScan(t, "x.and.y", list("name", "x", "op", ".and.", "name", "y"))
	checkScan(t, "x.5", list("name", "x", "real", ".5"))
	checkScan(t, "x'a'", list("name", "x", "text", "a"))
	checkScan(t, "a1.5", list("name", "a1", "real", ".5"))
	checkWrong(t, "abcdefghijklm", 0)
	checkWrong(t, "abcdefghijkl_", 0)
	checkWrong(t, "abcdefghijkl1", 0)
	checkWrong(t, "x = abcdefghijklmnopqrstuvwxyz", 4)
	checkWrong(t, "_", 0)
	checkWrong(t, "_a", 0)
	checkWrong(t, "x _a", 2)
	checkWrong(t, "a.b", 1)
}

func TestScanInts(t *testing.T) {
	for _, text := range []string{"0", "1", "9", "00", "2147483648", "9999999999", "0000000000"} {
		checkScan(t, text, list("int", text))
	}
	checkScan(t, "-1", list("op", "-", "int", "1"))
	checkScan(t, "1'a'", list("int", "1", "text", "a"))
	checkScan(t, "1(2", list("int", "1", "op", "(", "int", "2"))
	for _, text := range []string{"00000000000", "12345678901", "12345678901.and.1", "1a", "1_", "1_8", "1x2", "1e", "1d", "1E+", "1e-", "1e+x", "1e 5", "12ab'"} {
		checkWrong(t, text, 0)
		checkWrong(t, "x+ "+text, 3)
	}
}

func TestScanReals(t *testing.T) {
	for text, want := range map[string]string{
		"1.": "1.", ".5": ".5", "1.5": "1.5", "00.00": "00.00", "1e5": "1e5", "1E5": "1e5", "1d5": "1d5", "1D5": "1d5", "1.e5": "1.e5", ".5e5": ".5e5", "1.5e5": "1.5e5",
		"1e+5": "1e+5", "1e-5": "1e-5", "1.D-05": "1.d-05", ".0d+000": ".0d+000", "1e999": "1e999", "12345678901.": "12345678901.", "12345678901e1": "12345678901e1", ".12345678901": ".12345678901",
	} {
		checkScan(t, text, list("real", want))
		checkScan(t, "("+text+")", list("op", "(", "real", want, "op", ")"))
		checkScan(t, "-"+text+" ", list("op", "-", "real", want))
	}
	for _, text := range []string{some("1", 60) + ".", "." + some("1", 60), some("0", 30) + "." + some("9", 30), some("1", 60) + "e1", some("1", 60) + ".d-999", "." + some("0", 60) + "e+100"} {
		checkScan(t, text, list("real", text))
	}
	for _, text := range []string{
		some("1", 61) + ".", "." + some("1", 61), some("1", 40) + "." + some("1", 21), some("1", 61) + "e1", "1" + some("0", 60) + ".d9",
		"1e1234", "1.e1234", ".5d+0000", "1.5e-1234", "1.5e", "1.5e+", "1.d", ".5d-", "1.5x", ".5_", "1.5_8", "1.e5x", "1e5_", "1e5e5", "1.5e5d5", "1.e+ 5", "1.ex", "1.d.2", "1.e", "1.eq.2", "1.eqv", "1.eqvx.", "1.e.and.2",
	} {
		checkWrong(t, text, 0)
		checkWrong(t, "x = "+text, 4)
	}
	checkScan(t, "1..2", list("real", "1.", "real", ".2"))
	checkScan(t, "1.5.5", list("real", "1.5", "real", ".5"))
	checkScan(t, "1.5+e5", list("real", "1.5", "op", "+", "name", "e5"))
	checkScan(t, "1e5.5", list("real", "1e5", "real", ".5"))
	checkScan(t, "1e5'e'", list("real", "1e5", "text", "e"))
}

// Of all letters only e and d begin an exponent.
func TestScanExponentLetters(t *testing.T) {
	for b := byte('a'); b <= 'z'; b++ {
		for _, letter := range []string{string([]byte{b}), string([]byte{b - 32})} {
			small := string([]byte{b})
			if b == 'e' || b == 'd' {
				checkScan(t, "1"+letter+"5", list("real", "1"+small+"5"))
				checkScan(t, "1."+letter+"5", list("real", "1."+small+"5"))
				checkScan(t, "x.5"+letter+"-5", list("name", "x", "real", ".5"+small+"-5"))
				checkWrong(t, "1."+letter, 0)
				continue
			}
			checkWrong(t, "1"+letter+"5", 0)
			checkWrong(t, "1."+letter+"5", 1)
			checkWrong(t, "x.5"+letter+"-5", 1)
			checkWrong(t, "1."+letter, 1)
		}
	}
}

// A point belongs to the digits ahead of it, or to a word in dots.
func TestScanPoints(t *testing.T) {
	for _, word := range []string{".and.", ".or.", ".not.", ".eqv."} {
		checkScan(t, "1"+word+"2", list("int", "1", "op", word, "int", "2"))
		checkScan(t, "1."+word+".2", list("real", "1.", "op", word, "real", ".2"))
		checkScan(t, "1.5"+word+"2e5", list("real", "1.5", "op", word, "real", "2e5"))
		checkScan(t, "1e5"+word+"e5", list("real", "1e5", "op", word, "name", "e5"))
		checkScan(t, ".5"+word+word, list("real", ".5", "op", word, "op", word))
	}
	checkScan(t, "1.EQV.2", list("int", "1", "op", ".eqv.", "int", "2"))
	checkScan(t, "1.eQv.E", list("int", "1", "op", ".eqv.", "name", "e"))
	checkScan(t, "1.true.", list("int", "1", "logical", ".true."))
	checkScan(t, "1.FALSE.5", list("int", "1", "logical", ".false.", "int", "5"))
	checkScan(t, "1. and", list("real", "1.", "name", "and"))
	checkScan(t, "1.'x'", list("real", "1.", "text", "x"))
	checkScan(t, "1./2.", list("real", "1.", "op", "/", "real", "2."))
	for text, at := range map[string]int{
		".": 0, "..": 0, ".x": 0, ".e5": 0, ".e": 0, "1.x": 1, "1.and": 1, "1.f5": 1, "1.c": 1, "1..": 2, "1...5": 2, "1.5.": 3, "1.5.x": 3, "1e5.": 3, "1e5.e5": 3, "1.5.e5": 3, "1 . 5": 2, "x.": 1, "x%.y": 2,
		"1._": 0, "1.5._": 3, ".5.": 2, "1.AND": 1,
	} {
		checkWrong(t, text, at)
	}
}

func TestScanWords(t *testing.T) {
	for text, want := range map[string]string{".and.": ".and.", ".AND.": ".and.", ".aNd.": ".and.", ".or.": ".or.", ".Or.": ".or.", ".not.": ".not.", ".NOT.": ".not.", ".eqv.": ".eqv.", ".EQV.": ".eqv."} {
		checkScan(t, text, list("op", want))
		checkScan(t, "x"+text+"y", list("name", "x", "op", want, "name", "y"))
	}
	for text, want := range map[string]string{".true.": ".true.", ".TRUE.": ".true.", ".tRuE.": ".true.", ".false.": ".false.", ".False.": ".false."} {
		checkScan(t, text, list("logical", want))
		checkScan(t, text+text, list("logical", want, "logical", want))
	}
	checkScan(t, ".not..true.", list("op", ".not.", "logical", ".true."))
	checkScan(t, ".true.5", list("logical", ".true.", "int", "5"))
	checkScan(t, ".true.a", list("logical", ".true.", "name", "a"))
	for _, text := range []string{".and", ".andy.", ".an.", ". and.", ".and .", ".neqv.", ".eq.", ".ne.", ".lt.", ".xor.", ".tru.", ".true", ".falsee.", "..and.", ".a.", ".t.", ".and_."} {
		checkWrong(t, text, 0)
		checkWrong(t, "a+"+text, 2)
	}
	checkWrong(t, ".and..", 5)
	checkWrong(t, ".true.true.", 10)
}

func TestScanSigns(t *testing.T) {
	for _, sign := range []string{"**", "==", "/=", "<=", ">=", "=>", "::", "+", "-", "*", "/", "<", ">", "=", "(", ")", "[", "]", ",", ":", "%"} {
		checkScan(t, sign, list("op", sign))
		checkScan(t, " a"+sign+"1 ", list("name", "a", "op", sign, "int", "1"))
	}
	for text, want := range map[string][]string{
		"===": {"==", "="}, "====": {"==", "=="}, "=>=": {"=>", "="}, "==>": {"==", ">"}, ">==": {">=", "="}, "<=>": {"<=", ">"}, "=<": {"=", "<"}, "<>": {"<", ">"},
		":::": {"::", ":"}, "::::": {"::", "::"}, "***": {"**", "*"}, "/==": {"/=", "="}, "//": {"/", "/"}, "//=": {"/", "/="}, "(/": {"(", "/"}, "/)": {"/", ")"}, "->": {"-", ">"}, "%%": {"%", "%"}, "+=": {"+", "="}, ":=": {":", "="}, "=:": {"=", ":"}, "*=": {"*", "="}, "()": {"(", ")"}, "[]": {"[", "]"},
	} {
		var ops []api.Token
		for _, w := range want {
			ops = append(ops, api.Token{Kind: "op", Text: w})
		}
		checkScan(t, text, ops)
	}
	for _, sign := range []string{"!", "#", "$", "&", ";", "?", "@", "\\", "^", "_", "`", "{", "|", "}", "~", "."} {
		checkWrong(t, sign, 0)
		checkWrong(t, "a("+sign, 2)
		checkWrong(t, "1 + "+sign+" + 2", 4)
	}
}

func TestScanTexts(t *testing.T) {
	for text, want := range map[string]string{
		`''`: "", `""`: "", `'a'`: "a", `"a"`: "a", `' '`: " ", `'  a b '`: "  a b ", `'it''s'`: "it's", `"it's"`: "it's", `'say "x"'`: `say "x"`, `"a""b"`: `a"b`, `''''`: "'", `""""`: `"`, `''''''`: "''",
		`'""'`: `""`, `"''"`: "''", `'A.AND.b'`: "A.AND.b", `'1e'`: "1e", `'~!&;'`: "~!&;", `'a'''`: "a'", `'''a'`: "'a",
	} {
		checkScan(t, text, list("text", want))
		checkScan(t, "x,"+text+",y", list("name", "x", "op", ",", "text", want, "op", ",", "name", "y"))
	}
	checkScan(t, `'a'"b"`, list("text", "a", "text", "b"))
	checkScan(t, `"a"'b'''`, list("text", "a", "text", "b'"))
	checkScan(t, `'a' ''`, list("text", "a", "text", ""))
	checkScan(t, "'"+some("x", 9000)+"'", list("text", some("x", 9000)))
	for text, at := range map[string]int{`'`: 0, `"`: 0, `'a`: 0, `'a"`: 0, `"a'`: 0, `'''`: 0, `'a''`: 0, `"""a""`: 0, `x'`: 1, `x "`: 2, `'a' 'b`: 4, `''''' x`: 0, `'a'"`: 3} {
		checkWrong(t, text, at)
	}
}

// Bytes that no text has come ahead of all else that is wrong, in quotes too.
func TestScanBytes(t *testing.T) {
	for b := range 256 {
		s := string([]byte{byte(b)})
		if b >= 32 && b <= 126 {
			if _, _, err := Scan("'a" + s + s + "'"); err != api.OK {
				t.Errorf("byte %d in a text: %d", b, err)
			}
			continue
		}
		checkWrong(t, s, 0)
		checkWrong(t, "a = b"+s, 5)
		checkWrong(t, "'a"+s+"b'", 2)
		checkWrong(t, "'a"+s, 2)
		checkWrong(t, "_"+s+s, 1)
		checkWrong(t, "abcdefghijklmn "+s, 15)
	}
	checkWrong(t, "x = 'é'", 5)
	checkWrong(t, "\u212a", 0) // small, it is a k
	checkWrong(t, ".fal\u017fe.", 4)
	checkWrong(t, "x\ny", 1)
	checkWrong(t, "x\ty", 1)
}

// The first place that is wrong is told, and nothing of what stands ahead of it.
func TestScanFirst(t *testing.T) {
	checkWrong(t, "a b ? 1x", 4)
	checkWrong(t, "a 1x ? b", 2)
	checkWrong(t, "abcdefghijklm 'x", 0)
	checkWrong(t, "'x abcdefghijklm", 0)
	checkWrong(t, "a 'b' 12345678901 1x", 6)
}

// allTexts calls a function with each text of up to so many bytes of an alphabet.
func allTexts(alphabet string, most int, visit func(string)) {
	var extend func(string)
	extend = func(s string) {
		visit(s)
		if len(s) < most {
			for i := range len(alphabet) {
				extend(s + alphabet[i:i+1])
			}
		}
	}
	extend("")
}

func checkSlowly(t *testing.T, text string) {
	t.Helper()
	got, at, err := Scan(text)
	want, wantAt, wantErr := scanSlowly(text)
	if !equal(got, want) || at != wantAt || err != wantErr {
		t.Errorf("Scan(%q) = %q, %d, %d; want %q, %d, %d", text, got, at, err, want, wantAt, wantErr)
	}
}

// All short texts, over the bytes that decide in numbers, in signs and in quotes.
func TestScanShort(t *testing.T) {
	for alphabet, most := range map[string]int{"1.eD+_x ": 5, "=></*:-(%": 5, "'\"a' ": 6, "_a1. &\t": 5} {
		allTexts(alphabet, most, func(s string) { checkSlowly(t, s) })
	}
}

var pieces = []string{
	"a", "Xy_1", "abcdefghijkl", "abcdefghijklm", "e", "E5", "d", "_", "1", "0123456789", "12345678901", ".", ".5", "1.", "e5", "e+", "D-12", "1234", "+", "-", "*", "/", "<", ">", "=", "(", ")", "[", "]", ",", ":", "%",
	".and.", ".Or.", ".not.", ".eqv.", ".EQV", ".true.", ".false.", "and.", "'", "\"", "''", "'a'", " ", " ", "  ", "&", "!", "\t", "\x80",
}

// Texts laid of pieces at random.
func TestScanRandom(t *testing.T) {
	r := rand.New(rand.NewSource(4))
	for range 100000 {
		s := ""
		for range r.Intn(7) {
			s += pieces[r.Intn(len(pieces)-r.Intn(2)*2)]
		}
		checkSlowly(t, s)
	}
}

// Scan ends in good time, for long texts too.
func TestScanLong(t *testing.T) {
	const n = 1 << 20
	for _, b := range []string{" ", "'", "=", "1", "a", ".", "''", "'a", "1.", ".and.", "\""} {
		Scan(some(b, n))
		Scan("1." + some(b, n))
		Scan("'" + some(b, n))
	}
	checkWrong(t, some("1", n), 0)
	checkWrong(t, some("a", n), 0)
	checkScan(t, some("'", 2*n), list("text", some("'", n-1)))
}
