package tree

import (
	"strings"
	"testing"

	"quadrat/api"
)

func TestNoStatements(t *testing.T) {
	checkWrong(t, "", 0, api.ErrForm)
	checkWrong(t, "\n! nothing\n\n", 0, api.ErrForm)
	if f, at, err := Parse(nil); !equal(f, api.File{}) || at != 0 || err != api.ErrForm {
		t.Errorf("Parse of nothing: %+v, %d, %d", f, at, err)
	}
	if f, at, err := Parse([]api.Line{}); !equal(f, api.File{}) || at != 0 || err != api.ErrForm {
		t.Errorf("Parse of an empty list: %+v, %d, %d", f, at, err)
	}
}

// Lines that are no statements come ahead of all else.
func TestNoLines(t *testing.T) {
	for _, bad := range []api.Line{{}, {Text: "x;y"}, {Text: " x"}, {Text: "x "}, {Text: "x!"}, {Text: "'x"}, {Text: "x &"}, {Text: "1 x"}, {Text: "x\n"}, {Text: "x", Label: -1}, {Text: "x", Label: 100000}, {Text: strings.Repeat("x", api.MaxText+1)}} {
		for _, l := range [][]api.Line{{bad}, {{Text: "$", At: 1}, bad}, append(lines("program p", "end"), bad), append([]api.Line{bad}, lines("program p", "end")...)} {
			if f, at, err := Parse(l); !equal(f, api.File{}) || at != 0 || err != api.ErrArg {
				t.Errorf("Parse(%v): %d, %d", l, at, err)
			}
		}
	}
	many := make([]api.Line, api.MaxStmts+1)
	for i := range many {
		many[i] = api.Line{Text: "x", At: 1}
	}
	if _, at, err := Parse(many); at != 0 || err != api.ErrArg {
		t.Errorf("Parse of too many lines: %d, %d", at, err)
	}
	if _, at, err := Parse(many[:api.MaxStmts]); at != 1 || err != api.ErrForm {
		t.Errorf("Parse of many lines: %d, %d", at, err)
	}
}

// The errors of the source come first, with their lines.
func TestSourceErrors(t *testing.T) {
	for text, at := range map[string]int{"$\nx = 'a": 2, "x\x01": 1, "$\n\n0 x": 3, "x = 1 &": 1, "$\n" + strings.Repeat("x", 133): 2} {
		checkWrong(t, text, at, api.ErrForm)
	}
	checkWrong(t, strings.Repeat("x", api.MaxText+1), 0, api.ErrLimit)
	checkWrong(t, strings.Repeat("x\n", api.MaxStmts+1), 0, api.ErrLimit)
	for text, want := range map[string]api.Fault{
		"      $\n      x = 'a":                    {At: 2, Err: api.ErrForm},
		"      program p\n  a   x":                 {At: 2, Err: api.ErrForm},
		"      program p; end":                     {At: 1, Err: api.ErrForm},
		"C\n      program p\n      x =\n      end": {At: 3, Err: api.ErrForm},
		"":                                 {At: 0, Err: api.ErrForm},
		strings.Repeat("C\n", api.MaxText): {At: 0, Err: api.ErrLimit},
		strings.Repeat("      x\n", api.MaxStmts+1):                                  {At: 0, Err: api.ErrLimit},
		"      program p\n" + strings.Repeat("     &\n", 200) + "     &$\n      end": {At: 0, Err: api.ErrArg}, // its filled text is too long
	} {
		if f, at, err := ParseText(text, true); !equal(f, api.File{}) || at != want.At || err != want.Err {
			t.Errorf("ParseText of %.40q in the old form: %d, %d", text, at, err)
		}
	}
}

// What is malformed in a program's statements, each one where it could stand.
func TestMalformed(t *testing.T) {
	for _, text := range []string{
		// no statements
		"$", "x", "1", "'a'", "x y", "x(1)", "x + 1", "(x)", "[x]", "1 + 1", ".true.", "*", "continue 1", "continue x", "stop 1", "stop 'a'", "exit i", "cycle i", "go to 10", "goto 10", "return", "exit exit", "end1", "_", "x = 'a' ' b", "stop()", "x: y", "x, y",
		// assignments
		"x =", "= x", "x = y z", "x == 1", "x = = 1", "x = 1 = 2", "x = y = z", "x(1 = 2", "x(1)) = 2", "x 1 = 2", "1 = x", "'a' = x", "(x) = 1", "[x] = 1", "-x = 1", "x + 1 = 2", "x(1)(2) = 3", "x(1,) = 2", "x(::) = 1", "x([]) = 1", "x = []", "x = (1", "x = 1)", "x = 1,", "x => 1", "x = a:b", "x(1) = y(", "x = a%b", "x = 2147483648", "x = 1.5.", "x = ''' ", ".true. = 1",
		"x() = ", "x%y = 1", "x, y = 1", "x : = 1",
		// where
		"where", "where (a)", "where (a) b", "where (a) b =", "where a b = c", "where () b = c", "where (a) b + c", "where (a) 1 = b", "where (a) (b) = c", "where (a, b) c = x", "where (a:b) c = x", "where (a) b = c d", "where (a) call s", "where (a) b == c", "where (a) b(1) c", "where (a b = c", "where a) b = c", "where (a) where (b) c = x", "where (a) b = c = x", "where (a) [b] = c", "where (a) -b = c",
		// do
		"do", "do i", "do i =", "do i = 1", "do i = 1,", "do i = 1, 2,", "do i = 1, 2, 3,", "do i = 1, 2, 3, 4", "do i = 1 2", "do i 1, 2", "do (i) = 1, 2", "do i(1) = 1, 2", "do 1 = 1, 2", "do i = , 2", "do i = 1:2", "do, i = 1, 2", "do while (a)", "do while a", "do i == 1, 2", "do 10", "do 10 i", "do i = 1, 2 then", "do 'a' i = 1, 2", "do concurrent", "do i = 1, (2", "do do i = 1, 2",
		"do concurrent i = 1:2", "do concurrent ()", "do concurrent (i)", "do concurrent (i = 1)", "do concurrent (i = 1:)", "do concurrent (i = :2)", "do concurrent (i = 1:2", "do concurrent (i = 1, 2)", "do concurrent (i = 1:2:3)", "do concurrent (i = 1::3)", "do concurrent (i = 1:2,)", "do concurrent (i = 1:2, a, b)", "do concurrent (1 = 1:2)", "do concurrent (i(1) = 1:2)", "do concurrent (i = 1:2) x", "do concurrent (i = 1:2) a = b", "do concurrent (i == 1:2)", "do concurrent ((i) = 1:2)", "do concurrent (i = 1:2, j = 1:2)", "do concurrent concurrent (i = 1:2)",
		// if
		"if", "if then", "if (a)", "if () then", "if (a then", "if a then", "if a) then", "if (a, b) then", "if (a:b) then", "if (a) b", "if (a) then stop", "if (a) then 1", "if (a) = ", "if (a) (b) then", "if (a)(b) = 1", "if (a) thenn", "if ((a) then", "if [a] then",
		"else", "else if (a) then", "elseif (a) then", "else stop", "endif", "enddo", "end where", "end then",
		// call, print
		"call", "call 1", "call (a)", "call s(", "call s(a", "call s(a,)", "call s(,a)", "call s(a b)", "call s(a:b)", "call s(:)", "call s(a))", "call s()()", "call s, a", "call s a", "call s = 1", "call s(a) = 1", "call 's'", "call s%t", "call s[a]",
		"print", "print x", "print *,", "print *, ", "print *, x,", "print *,, x", "print * x", "print , x", "print *, a:b", "print **", "print *, *", "print (*), x", "print 'a', x", "print *, x y", "print *, (", "print *(a)",
	} {
		for _, front := range []string{"", "x = 1\n", "integer :: x\n", "x = 1; ", "do i = 1, 2\n", "if (a) then\nelse\n", "do 10 i = 1, 2\n", "implicit none\ncontains\nsubroutine s\n"} {
			checkWrong(t, "program p\n"+front+text+"\nend\n", 2+strings.Count(front, "\n"), api.ErrForm)
		}
		// what follows, and that the file ends, comes behind
		checkWrong(t, "program p\n\n"+text, 3, api.ErrForm)
		checkWrong(t, "program p\n"+text+"\n$\n", 2, api.ErrForm)
		if !strings.HasPrefix(text, "else") && !strings.HasPrefix(text, "end") {
			checkWrong(t, "program p\n5 "+text+"\nend", 2, api.ErrForm)
			checkWrong(t, "module m\n"+text+"\nend", 2, api.ErrForm)
		}
	}
}

// What may not stand where it stands, although it is right elsewhere.
func TestMisplaced(t *testing.T) {
	for text, line := range map[string]int{
		// ahead of units, and between
		"x = 1": 1, "end": 1, "stop\nprogram p\nend": 1, "use m\nprogram p\nend": 1, "contains": 1, "integer :: x": 1, "implicit none": 1, "program p\nend\nend": 3, "program p\nend\nx = 1": 3, "program p\nend; contains\nsubroutine s\nend": 2, "module = 1": 1, "program(1) = 2": 1, "subroutine = 3": 1,
		// headings
		"program": 1, "module": 1, "subroutine": 1, "program 1\nend": 1, "program p q\nend": 1, "program p()\nend": 1, "module m(a)\nend": 1, "module m, n\nend": 1, "subroutine s(\nend": 1, "subroutine s(a\nend": 1, "subroutine s(a,)\nend": 1, "subroutine s(,a)\nend": 1, "subroutine s(a b)\nend": 1, "subroutine s(1)\nend": 1, "subroutine s((a))\nend": 1, "subroutine s() a\nend": 1, "subroutine s a\nend": 1, "subroutine s(a(:))\nend": 1, "subroutine s(*)\nend": 1, "function f(a)\nend": 1, "block data\nend": 1, "program 'p'\nend": 1, "subroutine s()()\nend": 1,
		// ends
		"program p\nend p": 2, "program p\nend module": 2, "program p\nend module p": 2, "program p\nend program q": 2, "program p\nend program p p": 2, "program p\nend program, p": 2, "module m\nend program": 2, "module m\nend module n": 2, "subroutine s\nend program s": 2, "subroutine s\nend subroutine t": 2, "subroutine s\nend subroutine s()": 2, "program p\nend end": 2, "program p\nend 1": 2, "program p\nend do": 2, "program p\nend if": 2, "program p\nend program 'p'": 2, "program p\nendprogram": 2, "program p\nelse\nend": 2,
		"module m\ncontains\nsubroutine s\nend module m\nend": 4, "module m\ncontains\nsubroutine s\nend subroutine m\nend": 4,
		// uses
		"program p\nuse\nend": 2, "program p\nuse 1\nend": 2, "program p\nuse m n\nend": 2, "program p\nuse m,\nend": 2, "program p\nuse m, a\nend": 2, "program p\nuse m, only\nend": 2, "program p\nuse m, only:\nend": 2, "program p\nuse m, only: a,\nend": 2, "program p\nuse m, only: a b\nend": 2, "program p\nuse m, only: a =>\nend": 2, "program p\nuse m, only: => a\nend": 2, "program p\nuse m, only: a => b => c\nend": 2, "program p\nuse m, only a\nend": 2, "program p\nuse m, only::a\nend": 2, "program p\nuse m only: a\nend": 2, "program p\nuse m: a => b\nend": 2, "program p\nuse m, a => b,\nend": 2, "program p\nuse m, a => b, c\nend": 2, "program p\nuse m, a => 1\nend": 2, "program p\nuse, only: a\nend": 2, "program p\nuse m, a => b c\nend": 2, "program p\nuse m, a = b\nend": 2, "program p\nuse m, n\nend": 2, "program p\nuse m, only: a(1)\nend": 2, "program p\nuse m, only: (a)\nend": 2, "program p\nuse m, a => b, only: c\nend": 2,
		// implicit none
		"program p\nimplicit\nend": 2, "program p\nimplicit real\nend": 2, "program p\nimplicit none none\nend": 2, "program p\nimplicit none\nimplicit none\nend": 3, "program p\nimplicitnone\nend": 2,
		// declarations
		"program p\ninteger x\nend": 2, "program p\ninteger ::\nend": 2, "program p\ninteger\nend": 2, "program p\ninteger : x\nend": 2, "program p\ninteger : : x\nend": 2, "program p\ninteger, x\nend": 2, "program p\ninteger, parameter x\nend": 2, "program p\ninteger, parameter, parameter :: x\nend": 2, "program p\ninteger parameter :: x\nend": 2, "program p\ninteger, :: x\nend": 2, "program p\ninteger, save :: x\nend": 2, "program p\ninteger(4) :: x\nend": 2, "program p\nlogical(1) :: x\nend": 2, "program p\nreal(2) :: x\nend": 2, "program p\nreal(16) :: x\nend": 2, "program p\nreal() :: x\nend": 2, "program p\nreal(a) :: x\nend": 2, "program p\nreal(8 :: x\nend": 2, "program p\nreal 8 :: x\nend": 2, "program p\nreal*8 :: x\nend": 2, "program p\nreal(4, 8) :: x\nend": 2, "program p\nreal(8.) :: x\nend": 2, "program p\ncomplex :: x\nend": 2, "program p\ncharacter :: x\nend": 2, "program p\nreal('8') :: x\nend": 2, "program p\ninteger, 'parameter' :: x\nend": 2,
		"program p\ninteger :: 1\nend": 2, "program p\ninteger :: x,\nend": 2, "program p\ninteger :: ,x\nend": 2, "program p\ninteger :: x y\nend": 2, "program p\ninteger :: x =\nend": 2, "program p\ninteger :: x == 1\nend": 2, "program p\ninteger :: x = 1 2\nend": 2, "program p\ninteger :: x => 1\nend": 2, "program p\ninteger :: x = 1 = 2\nend": 2, "program p\ninteger :: x = 1, 2\nend": 2, "program p\ninteger :: x(1) = 2:3\nend": 2,
		"program p\ninteger :: x()\nend": 2, "program p\ninteger :: x(1,)\nend": 2, "program p\ninteger :: x(1, 2, 3, 4)\nend": 2, "program p\ninteger :: x(:, :, :, :)\nend": 2, "program p\ninteger :: x(:2)\nend": 2, "program p\ninteger :: x(1:2:3)\nend": 2, "program p\ninteger :: x(::)\nend": 2, "program p\ninteger :: x(1::)\nend": 2, "program p\ninteger :: x(1::2)\nend": 2, "program p\ninteger :: x(: :)\nend": 2, "program p\ninteger :: x(1\nend": 2, "program p\ninteger :: x(1))\nend": 2, "program p\ninteger :: x(1)(2)\nend": 2, "program p\ninteger :: x(*)\nend": 2, "program p\ninteger :: x[1]\nend": 2, "program p\ninteger :: x(1 2)\nend": 2, "program p\ninteger :: (x)\nend": 2, "program p\ninteger :: x((1:2))\nend": 2,
		// the order in a unit
		"program p\nimplicit none\nuse m\nend": 3, "program p\ninteger :: x\nuse m\nend": 3, "program p\ninteger :: x\nimplicit none\nend": 3, "program p\nx = 1\nuse m\nend": 3, "program p\nx = 1\nimplicit none\nend": 3, "program p\nx = 1\ninteger :: y\nend": 3, "program p\ninteger = 1\ninteger :: y\nend": 3, "program p\nuse = 1\nuse m\nend": 3, "program p\nstop\nreal(8) :: y\nend": 3, "module m\nimplicit none\nuse m\nend": 3, "module m\ninteger :: x\nimplicit none\nend": 3,
		"program p\ncontains\nx = 1\nend": 3, "program p\ncontains\ninteger :: x\nend": 3, "program p\ncontains\ncontains\nend": 3, "program p\ncontains\nprogram q\nend\nend": 3, "program p\ncontains\nmodule q\nend\nend": 3, "program p\ncontains\nsubroutine = 1\nend": 3, "program p\ncontains\nsubroutine s\nend\nx = 1\nend": 5, "program p\ncontains\nsubroutine s\ncontains\nend\nend": 4, "program p\ncontains\nsubroutine s\ncontains\nsubroutine t\nend\nend\nend": 4, "program p\ncontains x\nend": 2, "program p\nsubroutine s\nend\nend": 2, "program p\ncontains\nsubroutine s\nsubroutine t\nend\nend\nend": 4, "program p\nstop\nmodule m\nend\nend": 3, "program p\ndo i = 1, 2\ncontains\nend": 3,
		// modules
		"module m\nx = 1\nend": 2, "module m\ncontinue\nend": 2, "module m\ninteger = 1\nend": 2, "module m\nend = 1\nend": 2, "module m\ndo i = 1, 2\nend do\nend": 2, "module m\ninteger :: x\nstop\nend": 3, "module m\ncontains = 1\nend": 2,
		// blocks
		"program p\ndo i = 1, 2\nend\nend do\nend": 3, "program p\ndo i = 1, 2\nend if\nend": 3, "program p\ndo i = 1, 2\nelse\nend do\nend": 3, "program p\nif (a) then\nend do\nend": 3, "program p\nif (a) then\nelse\nelse\nend if\nend": 4, "program p\nif (a) then\nend\nend if\nend": 3, "program p\nif (a) then\ndo i = 1, 2\nend if\nend do\nend": 4, "program p\ndo i = 1, 2\nif (a) then\nend do\nend if\nend": 4, "program p\ndo i = 1, 2\ndo i = 1, 2\nend do\nend program p\n": 5, "program p\nif (a) then\nend program\n": 3, "program p\ndo i = 1, 2\nend do i\nend": 3, "program p\nif (a) then\nend if if\nend": 3, "program p\nif (a) then\nelse a\nend if\nend": 3, "program p\nif (a) stop\nend if\nend": 3, "program p\nif (a) stop\nelse\nend": 3, "program p\nif (a) then\ninteger :: x\nend if\nend": 3, "program p\ndo i = 1, 2\nsubroutine s\nend": 3, "program p\nend do\nend": 2, "program p\ndo i = 1, 2\nend do\nend do\nend": 4,
	} {
		checkWrong(t, text, line, api.ErrForm)
		checkWrong(t, text+"\n$", line, api.ErrForm)
		checkWrong(t, "subroutine before\nend\n"+text, line+2, api.ErrForm)
	}
}

// A file that ends within a unit or a block is wrong at its last statement.
func TestTooEarlyEnds(t *testing.T) {
	whole := "subroutine r\nend\n\nmodule m\nuse n\nimplicit none\ninteger :: x\ncontains\nsubroutine s\nuse n\n\ninteger :: y\ndo i = 1, 2\nif (a) then\nstop\nelse\ndo concurrent (i = 1:2)\nx = 1\nend do\ndo 10 i = 1, 2\n10 continue\nend if\nend do\nend\nend\n"
	parsed(t, whole)
	l := strings.Split(whole, "\n")
	for n := 1; n < len(l)-2; n++ {
		text := strings.Join(l[:n], "\n")
		if n == 2 || n == 3 {
			parsed(t, text)
			continue
		}
		last := n
		for l[last-1] == "" {
			last--
		}
		checkWrong(t, text, last, api.ErrForm)
		checkWrong(t, text+"\n\n! more\n\n", last, api.ErrForm)
	}
}
