package tree

import (
	"strings"
	"testing"

	"quadrat/api"
)

// checkExpr holds that a text has a tree, and that this tree has a text.
func checkExpr(t *testing.T, text string, want api.Expr, printed string) {
	t.Helper()
	e, err := ParseExpr(text)
	if !equal(e, want) || err != api.OK {
		t.Errorf("ParseExpr(%q) = %+v, %d; want %+v", text, e, err, want)
	}
	if s, err := PrintExpr(want); s != printed || err != api.OK {
		t.Errorf("PrintExpr of %q = %q, %d; want %q", text, s, err, printed)
	}
}

func checkExprWrong(t *testing.T, text string, want api.Errno) {
	t.Helper()
	if e, err := ParseExpr(text); !equal(e, api.Expr{}) || err != want {
		t.Errorf("ParseExpr(%q) = %+v, %d; want %d", text, e, err, want)
	}
}

func TestOperands(t *testing.T) {
	for text, want := range map[string]api.Expr{
		"0": intExpr(0), "1": intExpr(1), "2147483647": intExpr(2147483647),
		"1.": realExpr("1."), ".5": realExpr(".5"), "1.5d0": realExpr("1.5d0"), "2e-10": realExpr("2e-10"),
		".true.": logicalExpr(1), ".false.": logicalExpr(0),
		"''": textExpr(""), "'a B'": textExpr("a B"), "'it''s'": textExpr("it's"), `'"!;&'`: textExpr(`"!;&`),
		"x": x, "do": nameExpr("do"), "abcdefghij_2": nameExpr("abcdefghij_2"),
		"f()": itemExpr("f"), "f(x)": itemExpr("f", x), "f(1, x)": itemExpr("f", intExpr(1), x), "f('a', [x], f())": itemExpr("f", textExpr("a"), listExpr(x), itemExpr("f")),
		"[1]": listExpr(intExpr(1)), "[a, b, c]": listExpr(a, b, c), "[[a], [1., f(:)]]": listExpr(listExpr(a), listExpr(realExpr("1."), itemExpr("f", tripleExpr(missing, missing, missing)))),
	} {
		checkExpr(t, text, want, text)
		checkExpr(t, " ( ("+text+") ) ", want, text)
	}
	checkExpr(t, "007", intExpr(7), "7")
	checkExpr(t, "0000000000", intExpr(0), "0")
	checkExpr(t, "1.5D0", realExpr("1.5d0"), "1.5d0")
	checkExpr(t, `"it's"""`, textExpr(`it's"`), `'it''s"'`)
	checkExpr(t, "X", x, "x")
	checkExpr(t, ".TRUE.", logicalExpr(1), ".true.")
	checkExpr(t, "F ( X )", itemExpr("f", x), "f(x)")
	checkExpr(t, "f((x),[(1)])", itemExpr("f", x, listExpr(intExpr(1))), "f(x, [1])")
}

// Triples stand in brackets alone, with two colons in one token, too.
func TestTriples(t *testing.T) {
	n := missing
	for text, want := range map[string]api.Expr{
		":": tripleExpr(n, n, n), "a:": tripleExpr(a, n, n), ":b": tripleExpr(n, b, n), "a:b": tripleExpr(a, b, n), "::c": tripleExpr(n, n, c), "a::c": tripleExpr(a, n, c), ":b:c": tripleExpr(n, b, c), "a:b:c": tripleExpr(a, b, c),
		"1 + a:-b:.not. c": tripleExpr(opExpr("+", intExpr(1), a), opExpr("-", b), opExpr(".not.", c)),
		"f(::2)::f(:, 1)":  tripleExpr(itemExpr("f", tripleExpr(n, n, intExpr(2))), n, itemExpr("f", tripleExpr(n, n, n), intExpr(1))),
		"1.:1.:1.":         tripleExpr(realExpr("1."), realExpr("1."), realExpr("1.")),
	} {
		checkExpr(t, "x("+text+")", itemExpr("x", want), "x("+text+")")
		checkExpr(t, "x(1, "+text+", :)", itemExpr("x", intExpr(1), want, tripleExpr(n, n, n)), "x(1, "+text+", :)")
		checkExpr(t, "x("+strings.ReplaceAll(text, ":", " : ")+")", itemExpr("x", want), "x("+text+")")
		checkExprWrong(t, text, api.ErrForm)
		checkExprWrong(t, "("+text+")", api.ErrForm)
		checkExprWrong(t, "["+text+"]", api.ErrForm)
		checkExprWrong(t, "x(("+text+"))", api.ErrForm)
		checkExprWrong(t, "x(["+text+"])", api.ErrForm)
		checkExprWrong(t, "x(1 + "+text+":1:1)", api.ErrForm)
	}
	for _, text := range []string{"::", "a::", ":b:", "a:b:", ":::", "::c:", "a:::c", "a:b::", "a:b::c", ": ::", ":: :", "a:b:c:", "a:b:c:i", "a b", ",", ":,", ",:", ":(:)", "(:)", "a::b::c"} {
		checkExprWrong(t, "x("+text+")", api.ErrForm)
	}
}

func TestBinding(t *testing.T) {
	for text, want := range map[string]api.Expr{
		"a .or. b .or. c":           opExpr(".or.", opExpr(".or.", a, b), c),
		"a .or. (b .or. c)":         opExpr(".or.", a, opExpr(".or.", b, c)),
		"a .and. b .and. c":         opExpr(".and.", opExpr(".and.", a, b), c),
		"a .and. (b .and. c)":       opExpr(".and.", a, opExpr(".and.", b, c)),
		"a .or. b .and. c":          opExpr(".or.", a, opExpr(".and.", b, c)),
		"a .and. b .or. c":          opExpr(".or.", opExpr(".and.", a, b), c),
		"(a .or. b) .and. c":        opExpr(".and.", opExpr(".or.", a, b), c),
		"a .and. (b .or. c)":        opExpr(".and.", a, opExpr(".or.", b, c)),
		".not. a":                   opExpr(".not.", a),
		".not. .not. a":             opExpr(".not.", opExpr(".not.", a)),
		".not. a .and. b":           opExpr(".and.", opExpr(".not.", a), b),
		"a .and. .not. b":           opExpr(".and.", a, opExpr(".not.", b)),
		"a .or. .not. b .and. c":    opExpr(".or.", a, opExpr(".and.", opExpr(".not.", b), c)),
		".not. (a .and. b)":         opExpr(".not.", opExpr(".and.", a, b)),
		".not. (a .or. b)":          opExpr(".not.", opExpr(".or.", a, b)),
		".not. a == b":              opExpr(".not.", opExpr("==", a, b)),
		"(.not. a) == b":            opExpr("==", opExpr(".not.", a), b),
		"a == (.not. b)":            opExpr("==", a, opExpr(".not.", b)),
		".not. a + b":               opExpr(".not.", opExpr("+", a, b)),
		"(.not. a) + b":             opExpr("+", opExpr(".not.", a), b),
		"a + (.not. b)":             opExpr("+", a, opExpr(".not.", b)),
		"(.not. a) * (.not. b)":     opExpr("*", opExpr(".not.", a), opExpr(".not.", b)),
		".not. -a":                  opExpr(".not.", opExpr("-", a)),
		"-(.not. a)":                opExpr("-", opExpr(".not.", a)),
		"a == b .and. b /= c":       opExpr(".and.", opExpr("==", a, b), opExpr("/=", b, c)),
		"a < b .or. c >= i":         opExpr(".or.", opExpr("<", a, b), opExpr(">=", c, i)),
		"(a == b) == c":             opExpr("==", opExpr("==", a, b), c),
		"a <= (b > c)":              opExpr("<=", a, opExpr(">", b, c)),
		"a == (b .and. c)":          opExpr("==", a, opExpr(".and.", b, c)),
		"a + b < c - i":             opExpr("<", opExpr("+", a, b), opExpr("-", c, i)),
		"(a < b) + c":               opExpr("+", opExpr("<", a, b), c),
		"-a < -b":                   opExpr("<", opExpr("-", a), opExpr("-", b)),
		"a < -b + c":                opExpr("<", a, opExpr("+", opExpr("-", b), c)),
		"a + b - c + i":             opExpr("+", opExpr("-", opExpr("+", a, b), c), i),
		"a - (b - c)":               opExpr("-", a, opExpr("-", b, c)),
		"a - (b + c) - i":           opExpr("-", opExpr("-", a, opExpr("+", b, c)), i),
		"a * b / c * i":             opExpr("*", opExpr("/", opExpr("*", a, b), c), i),
		"a / (b * c)":               opExpr("/", a, opExpr("*", b, c)),
		"a + b * c":                 opExpr("+", a, opExpr("*", b, c)),
		"a * b + c":                 opExpr("+", opExpr("*", a, b), c),
		"(a + b) * c":               opExpr("*", opExpr("+", a, b), c),
		"a * (b + c)":               opExpr("*", a, opExpr("+", b, c)),
		"-a":                        opExpr("-", a),
		"+a":                        opExpr("+", a),
		"-1":                        opExpr("-", intExpr(1)),
		"-a + b":                    opExpr("+", opExpr("-", a), b),
		"+a - b":                    opExpr("-", opExpr("+", a), b),
		"-a * b":                    opExpr("-", opExpr("*", a, b)),
		"-a * b + c":                opExpr("+", opExpr("-", opExpr("*", a, b)), c),
		"-a / b / c":                opExpr("-", opExpr("/", opExpr("/", a, b), c)),
		"(-a) * b":                  opExpr("*", opExpr("-", a), b),
		"a * (-b)":                  opExpr("*", a, opExpr("-", b)),
		"a / (+b)":                  opExpr("/", a, opExpr("+", b)),
		"a + (-b)":                  opExpr("+", a, opExpr("-", b)),
		"a - (-b * c)":              opExpr("-", a, opExpr("-", opExpr("*", b, c))),
		"-(a + b)":                  opExpr("-", opExpr("+", a, b)),
		"+(-a)":                     opExpr("+", opExpr("-", a)),
		"-(-(-a))":                  opExpr("-", opExpr("-", opExpr("-", a))),
		"-(a < b)":                  opExpr("-", opExpr("<", a, b)),
		"f(-a, a + b, -a:-b)":       itemExpr("f", opExpr("-", a), opExpr("+", a, b), tripleExpr(opExpr("-", a), opExpr("-", b), missing)),
		"[-a, a .or. b, a == b]":    listExpr(opExpr("-", a), opExpr(".or.", a, b), opExpr("==", a, b)),
		"[a](1)"[:3] + " + f() * x": opExpr("+", listExpr(a), opExpr("*", itemExpr("f"), x)),
	} {
		checkExpr(t, text, want, text)
		checkExpr(t, strings.ReplaceAll(text, " ", ""), want, text)
	}
	for _, op := range []string{"==", "/=", "<", "<=", ">", ">="} {
		checkExpr(t, "a"+op+"b", opExpr(op, a, b), "a "+op+" b")
	}
	checkExpr(t, "1.and.2.or.x", opExpr(".or.", opExpr(".and.", intExpr(1), intExpr(2)), x), "1 .and. 2 .or. x")
	checkExpr(t, "A.AND..NOT.B", opExpr(".and.", a, opExpr(".not.", b)), "a .and. .not. b")
	checkExpr(t, "1.+.5", opExpr("+", realExpr("1."), realExpr(".5")), "1. + .5")
}

func TestNoExpressions(t *testing.T) {
	for _, text := range []string{
		"", " ", "(", ")", "()", "(a", "a)", "(a))", "((a)", "[", "]", "[]", "[a", "a]", "[a,]", "[,a]", "[a b]", "(a]", "[a)", "(a, b)", "f(", "f(a", "f(a,", "f(a,)", "f(,)", "f(,a)", "f(a b)", "f)", "f(a))", "f[a]", "f()()", "f(a)(b)", "(f)(a)", "1(a)", "[a](1)", "'a'(1)",
		"a b", "a 1", "1 a", "1 2", "'a' 'b'", ".true. .false.", "a 'b'", "a f(x)", "a [b]", "a (b) c",
		"+", "-", "a+", "a-", "a*", "*a", "/a", "a/", "a .or.", ".or. a", ".and.", "a .and.", ".not.", ".not. .not.", "==", "a ==", "== a", "a <",
		"a == b == c", "a < b < c", "a == b /= c", ".not. a == b == c", "a == b + c == i", "a + b == c < i * x",
		"a .not. b", "a .not.", "a == .not. b", "a + .not. b", "- .not. a", "a * .not. b", ".not. .and. a",
		"a + -b", "a - -b", "a * -b", "a / +b", "--a", "+-a", "- -a", "-+a", "a < < b", "a = b", "a == = b", "a .and. .or. b",
		"a ** b", "a**2", "a .eqv. b", "a%b", "a => b", "a :: b", "a, b", ",", ":", "a:b", "=", "a =", "2147483648", "9999999999", "a + 3000000000", "f(2147483648)",
		"12345678901", "1x", "abcdefghijklm", "'a", "a'", "a;b", "a!b", "a & b", "a\tb", "a\n", "\x00", "é", "a ! b", "_a", "a.b", "1.5.",
	} {
		checkExprWrong(t, text, api.ErrForm)
	}
}

func TestExprKids(t *testing.T) {
	for _, n := range []int{1, 2, 99, 100, 101, 1000} {
		args := strings.Repeat(", a", n)[2:]
		for _, text := range []string{"f(" + args + ")", "[" + args + "]", "f(f([" + args + "]))"} {
			e, err := ParseExpr(text)
			s, bad := PrintExpr(e)
			switch {
			case n <= 100 && (err != api.OK || bad != api.OK || s != text):
				t.Errorf("%d Kids: %d, %d", n, err, bad)
			case n > 100 && err != api.ErrForm:
				t.Errorf("%d Kids: %d", n, err)
			}
		}
	}
}

func TestExprLevels(t *testing.T) {
	many := func(front, middle, end string, n int) string {
		return strings.Repeat(front, n) + middle + strings.Repeat(end, n)
	}
	for text, levels := range map[string]int{
		"a": 1, many("(", "a", ")", 1000): 1, "f()": 1, "[a]": 2, "f(a)": 2, "f(:)": 3, "f(a:b:c)": 3, "f(a:b + c)": 4, "f(1, f(:))": 4,
		deep(20): 20, deep(21): 21, many("(-(", "a", "))", 19): 20, many("(-(", "a", "))", 20): 21,
		many("f(", "a", ")", 19): 20, many("f(", "a", ")", 20): 21, many("f(", "", ")", 20): 20, many("f(", "", ")", 21): 21,
		many("[", "1", "]", 19): 20, many("[", "1", "]", 20): 21, many("f(", ":", ")", 18): 20, many("f(", ":", ")", 19): 21,
		many("f(1:", "a", ")", 9): 19, many("f(1:", "a + a", ")", 9): 20, many("f(1:", "a", ")", 10): 21, many("f(:", "", ")", 9): 19, many("f(:", "1", ")", 9): 19, many("f(:", "1", ")", 10): 21,
		many("", "a", "+a", 19): 20, many("", "a", "+a", 20): 21, many("", "a", "*a", 19): 20, many("", "a", ".or.a", 20): 21, many("a+(", "a", ")", 19): 20, many("a+(", "a", ")", 20): 21,
		many(".not.", "a", "", 19): 20, many(".not.", "a", "", 20): 21, many(".not.", "a == b", "", 18): 20, many(".not.", "a == b", "", 19): 21,
		"b == " + deep(19): 20, "b == " + deep(20): 21, deep(19) + " .and. b": 20, deep(20) + ".or. b": 21, "[1, a, " + deep(19) + "]": 20, "[1, a, " + deep(20) + ", 1]": 21,
	} {
		want := api.OK
		if levels > 20 {
			want = api.ErrLimit
		}
		e, err := ParseExpr(text)
		if err != want || (err != api.OK) != equal(e, api.Expr{}) {
			t.Errorf("%q of %d levels: %d", text, levels, err)
		}
		// what is malformed comes ahead of what is too deep
		for _, more := range []string{" b", " +", ")", ", a", " + 2147483648", " == a == b"} {
			checkExprWrong(t, text+more, api.ErrForm)
		}
		checkExprWrong(t, "[, "+text+"]", api.ErrForm)
	}
}

// A tree of an expression that was put together by hand has the same limits.
func TestPrintLevels(t *testing.T) {
	var e, f, g api.Expr = a, itemExpr("f", tripleExpr(missing, missing, missing)), itemExpr("f")
	for n := 1; n < 40; n++ {
		for levels, e := range map[int]api.Expr{n: e, n + 2: f} {
			s, err := PrintExpr(e)
			if levels <= 20 && (s == "" || err != api.OK) || levels > 20 && (s != "" || err != api.ErrArg) {
				t.Errorf("%d levels: %q, %d", levels, s, err)
			}
		}
		if s, err := PrintExpr(g); (err == api.OK) != (n <= 20) || (s == "") != (n > 20) {
			t.Errorf("%d levels of items: %q, %d", n, s, err)
		}
		e, f, g = opExpr(".not.", e), listExpr(f), itemExpr("f", g)
	}
}

// Much of anything ends in good time, also what is deeply nested.
func TestExprLong(t *testing.T) {
	for _, s := range []string{"(", "[", "f(", "f(:", "f(1:", "a+", "-(", "-", ".not.", "a .or. b .and. .not. c == d + e * (", "f(a,", "[a,", ")", ":", ",", "a "} {
		for _, n := range []int{100, 1 << 13} {
			long := strings.Repeat(s, n)
			checkExprWrong(t, long, api.ErrForm)
			ParseExpr(long + "a" + strings.Repeat(")", n))
		}
	}
	const n = 1 << 16
	checkExpr(t, strings.Repeat("(", n)+"a"+strings.Repeat(")", n), a, "a")
	checkExprWrong(t, strings.Repeat("(", n)+"a"+strings.Repeat(")", n-1), api.ErrForm)
	checkExprWrong(t, strings.Repeat("f(1:", n)+"a"+strings.Repeat(")", n), api.ErrLimit)
	checkExprWrong(t, strings.Repeat("-(", n)+"a"+strings.Repeat(")", n), api.ErrLimit)
	checkExprWrong(t, strings.Repeat(".not.", 1<<18)+"a", api.ErrLimit)
	checkExprWrong(t, strings.Repeat("a+", 1<<18)+"a", api.ErrLimit)
	checkExprWrong(t, strings.Repeat("(", 1<<20), api.ErrForm)
	checkExprWrong(t, strings.Repeat("a .or. .not. b + c * f(1:2, ", n), api.ErrForm)
}
