package tree

import (
	"strings"
	"testing"

	"quadrat/api"
)

// deepPlaces are statements with an expression, for which $ stands.
var deepPlaces = []string{
	"x = $", "x(1) = $", "where ($) x = 1", "where (a) x = $", "do i = $, 2\nend do", "do i = 1, $\nend do", "do i = 1, 2, $\nend do", "do 1 i = 1, $\n1 continue", "do concurrent (i = $:2)\nend do", "do concurrent (i = 1:$)\nend do", "do concurrent (i = 1:2, $)\nend do",
	"if ($) then\nend if", "if ($) stop", "if (a) x = $", "if (a) call s($)", "call s($)", "call s(a, $)", "print *, $", "print *, a, $, b", "integer :: x = $", "integer :: a, x = $, b", "real, parameter :: x(3) = $", "integer :: x($)", "integer :: x(1, $)", "integer :: x($:2)", "integer :: x(1:$)", "integer :: x($:)",
}

func TestDeepStatements(t *testing.T) {
	for _, text := range deepPlaces {
		f := parsed(t, "program p\n"+strings.ReplaceAll(text, "$", deep(20))+"\nend")
		if g := parsed(t, strings.Join(texts(t, f), "\n")); !Same(f, g) {
			t.Errorf("%q is not read back", text)
		}
		checkWrong(t, "program p\n"+strings.ReplaceAll(text, "$", deep(21))+"\nend", 2, api.ErrLimit)
		checkWrong(t, "program p\n\n"+strings.ReplaceAll(text, "$", "1 + f("+deep(19)+")")+"\nend", 3, api.ErrLimit)
		checkWrong(t, "program p\n"+strings.ReplaceAll(text, "$", deep(21))+"\n$", 2, api.ErrLimit)
		checkWrong(t, "program p\n"+strings.ReplaceAll(text, "$", deep(21)+" a")+"\nend", 2, api.ErrForm)
		checkWrong(t, "program p\nx = 1 +\n"+strings.ReplaceAll(text, "$", deep(21))+"\nend", 2, api.ErrForm)
		checkWrong(t, "program p\ncontains\n"+strings.ReplaceAll(text, "$", deep(21))+"\nend", 3, api.ErrForm)
	}
	// targets, whose subscripts are a level below
	for _, text := range []string{"x($) = 1", "where (a) x($) = 1", "if (a) x(1, $) = 1"} {
		parsed(t, "program p\n"+strings.ReplaceAll(text, "$", deep(19))+"\nend")
		checkWrong(t, "program p\n"+strings.ReplaceAll(text, "$", deep(20))+"\nend", 2, api.ErrLimit)
		checkWrong(t, "program p\n"+strings.ReplaceAll(text, "$", deep(20)+")")+"\nend", 2, api.ErrForm)
	}
	// the first one that is too deep, or malformed
	x21 := "x = " + deep(21) + "\n"
	checkWrong(t, "program p\nx = 1\n"+x21+x21+"end", 3, api.ErrLimit)
	checkWrong(t, "program p\nx = 1 1\n"+x21+"end", 2, api.ErrForm)
	checkWrong(t, "module m\n"+x21+"end", 2, api.ErrForm)
	checkWrong(t, "program p\ndo i = 1, 2\n"+x21+"end", 3, api.ErrLimit)
	checkWrong(t, "program p\nx = 1\ninteger :: y = "+deep(21)+"\nend", 3, api.ErrForm)
}

func TestDeepBlocks(t *testing.T) {
	fronts := map[string]string{"do i = 1, 2": "end do", "do concurrent (i = 1:2)": "end do", "if (a) then": "end if", "if (a) then\nelse": "end if", "do 7 i = 1, 2": "7 continue"}
	for front, end := range fronts {
		height := 1 + strings.Count(front, "\n")
		nested := func(n int, inner string) string {
			return "program p\n" + strings.Repeat(front+"\n", n) + inner + strings.Repeat(end+"\n", n) + "end"
		}
		f := parsed(t, nested(20, "x = 1\ncall s\n"))
		if !Valid(f) {
			t.Errorf("20 blocks of %q are not valid", front)
		}
		checkWrong(t, nested(21, ""), 2+20*height, api.ErrLimit)
		checkWrong(t, nested(22, "$\n"), 2+20*height, api.ErrLimit)
		checkWrong(t, nested(20, "if (a) stop\n"), 2+20*height, api.ErrLimit)
		checkWrong(t, nested(20, "if (a) stop 1\n"), 2+20*height, api.ErrForm)
		checkWrong(t, nested(20, "do i = 1\n"), 2+20*height, api.ErrForm)
		checkWrong(t, nested(20, "if (a)\n"), 2+20*height, api.ErrForm)
		checkWrong(t, nested(20, "stop 1\n"+nested(1, "")), 2+20*height, api.ErrForm)
		parsed(t, nested(19, "if (a) stop\n"))
		// blocks that follow each other, and those of contained units, begin anew
		parsed(t, "subroutine s\n"+strings.Repeat(front+"\n"+end+"\n", 21)+"contains\nsubroutine t\n"+within(20, "x = 1\n")+"end\nend\n"+nested(20, ""))
	}
	checkWrong(t, "program p\n"+within(19, "if (a) then\nif (b) then\n"), 22, api.ErrLimit)
}

// Print's statements may be more than those of the file: an if of one statement makes three.
func TestTooManyStatements(t *testing.T) {
	for text, each := range map[string]int{"if (a) stop\n": 3, "integer :: a, b, c, d, e\n": 5, "do 1 i = 1, 2\n1 continue\n": 3, "x = 1\n": 1, "print *; exit\n": 2} {
		for rest := range 2 * each {
			n := (api.MaxStmts-2)/each - 1
			file := "program p\n" + strings.Repeat(text, n) + strings.Repeat("stop\n", rest) + "end"
			statements := strings.Count(file, "\n") + strings.Count(file, ";") + 1
			count := 2 + n*each + rest
			switch {
			case statements >= api.MaxStmts:
			case count > api.MaxStmts:
				checkWrong(t, file, 0, api.ErrLimit)
				checkWrong(t, file+"\n$", strings.Count(file, "\n")+2, api.ErrForm)
			default:
				if f := parsed(t, file); Count(f) != count || !Valid(f) || len(texts(t, f)) != count {
					t.Errorf("%d times %q and %d: %d statements", n, text, rest, Count(f))
				}
			}
		}
	}
	many := "program p\n" + strings.Repeat("if (a) stop\n", 66)
	parsed(t, many+"end")
	checkWrong(t, many+"stop\nend", 0, api.ErrLimit)
	checkWrong(t, many+"x = "+deep(21)+"\nend", 68, api.ErrLimit)
	checkWrong(t, many+"stop\n", 68, api.ErrForm)
	checkWrong(t, many+"stop\nend\nx", 70, api.ErrForm)
}

func TestArrayRanks(t *testing.T) {
	for n, bounds := range []string{"", "(1)", "(1, :)", "(1, 2:3, a:)"} {
		f := parsed(t, "module m\nreal :: x"+bounds+"\nend")
		if got := len(f.Units[0].Decls[0].Bounds); got != n {
			t.Errorf("%s: %d bounds", bounds, got)
		}
	}
	checkWrong(t, "module m\nreal :: x(1, 2, 3, 4)\nend", 2, api.ErrForm)
}

// Statements that are as long as they may be.
func TestLongStatements(t *testing.T) {
	items := strings.Repeat(",a", (api.MaxText-6)/2)
	l := lines("program p", "print*"+items, "end")
	f, at, err := Parse(l)
	if at != 0 || err != api.OK || len(f.Units[0].Body[0].Exprs) != (api.MaxText-6)/2 {
		t.Errorf("a long print: %d, %d", at, err)
	}
	l[1].Text = "print*,'" + strings.Repeat("x", api.MaxText-8) + "'"
	if _, at, err := Parse(l); at != 0 || err != api.ErrArg {
		t.Errorf("a text that is too long: %d, %d", at, err)
	}
	l[1].Text = "x = " + strings.Repeat("(", 3998) + strings.Repeat(")", 3998)
	if _, at, err := Parse(l); at != 2 || err != api.ErrForm {
		t.Errorf("many brackets around nothing: %d, %d", at, err)
	}
	l[1].Text = "x = " + strings.Repeat("(", 3997) + "a" + strings.Repeat(")", 3997)
	if f, at, err := Parse(l); at != 0 || err != api.OK || !equal(noLines(f), body(api.Stmt{Kind: "assign", Exprs: exprs(x, a)})) {
		t.Errorf("many brackets: %d, %d", at, err)
	}
}
