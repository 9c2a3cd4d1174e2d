package tree

import (
	"slices"
	"strings"
	"testing"

	"quadrat/api"
	"quadrat/source"
)

// What is written in any way is printed in one.
func TestPrint(t *testing.T) {
	for text, want := range map[string]string{
		"program p\nend":                       "program p\nend program p",
		"PROGRAM P; END PROGRAM":               "program p\nend program p",
		"module m\ncontains\nend":              "module m\nend module m",
		"subroutine s()\nend":                  "subroutine s\nend subroutine s",
		"subroutine s ( a,b )\nend subroutine": "subroutine s(a, b)\nend subroutine s",
		"module m\ncontains\nsubroutine s\nend\nsubroutine t(x)\nstop\nend\nend\nprogram p\nend": "module m\ncontains\nsubroutine s\nend subroutine s\nsubroutine t(x)\nstop\nend subroutine t\nend module m\nprogram p\nend program p",
	} {
		if got := strings.Join(texts(t, parsed(t, text)), "\n"); got != want {
			t.Errorf("%q is printed as %q; want %q", text, got, want)
		}
	}
	for text, want := range map[string]string{
		"use m":                                       "use m",
		"use m,only:a":                                "use m, only: a",
		"use m , only : a=>a , b => c":                "use m, only: a, b => c",
		"use m,a=>b,c=>c":                             "use m, a => b, c => c",
		"use m,only=>x":                               "use m, only => x",
		"implicit  none":                              "implicit none",
		"integer::x":                                  "integer :: x",
		"logical , parameter::x=.TRUE.":               "logical, parameter :: x = .true.",
		"real::x":                                     "real(4) :: x",
		"real(4)::x,y":                                "real(4) :: x\nreal(4) :: y",
		"real(8),parameter::x(1)=1,y=-2":              "real(8), parameter :: x(1:1) = 1\nreal(8), parameter :: y = -2",
		"integer::a(3),b(:),c(0:),d(-1:+1)":           "integer :: a(1:3)\ninteger :: b(1:)\ninteger :: c(0:)\ninteger :: d(-1:+1)",
		"integer::a(n,:,2:(3))=[1,2]":                 "integer :: a(1:n, 1:, 2:3) = [1, 2]",
		"integer,parameter::a(1:3)=5":                 "integer, parameter :: a(1:3) = 5",
		"a=b":                                         "a = b",
		"a(1:2)=-(b*2)":                               "a(1:2) = -b * 2",
		"a()=((b))":                                   "a() = b",
		"where(a>0)b(:)=c":                            "where (a > 0) b(:) = c",
		"do i=1,2\nend do":                            "do i = 1, 2\nend do",
		"do i=a+b,-2,f(1)\ncycle\nend do":             "do i = a + b, -2, f(1)\ncycle\nend do",
		"do 5 i=1,2\n7 x=1\n5 continue":               "do i = 1, 2\nx = 1\ncontinue\nend do",
		"do concurrent(i=1:n)\nend do":                "do concurrent (i = 1:n)\nend do",
		"do concurrent(i=1:n,a(i)>0)\na(i)=0\nend do": "do concurrent (i = 1:n, a(i) > 0)\na(i) = 0\nend do",
		"if(a)stop":                                   "if (a) then\nstop\nend if",
		"if(a)x=1":                                    "if (a) then\nx = 1\nend if",
		"if(a)then\nelse\nend if":                     "if (a) then\nend if",
		"if(a)then\nelse\nexit\nend if":               "if (a) then\nelse\nexit\nend if",
		"if(a)then\ncycle\nelse\nif(b)exit\nend if":   "if (a) then\ncycle\nelse\nif (b) then\nexit\nend if\nend if",
		"call s":                                      "call s",
		"call s ( )":                                  "call s",
		"call s(a,'b',(c))":                           "call s(a, 'b', c)",
		"print*":                                      "print *",
		`print*,a,"it's ""x""",1.5D0`:                 `print *, a, 'it''s "x"', 1.5d0`,
		"10 STOP":                                     "stop",
		"continue":                                    "continue",
		"x(::2)=y(1::3)":                              "x(::2) = y(1::3)",
	} {
		got := strings.Join(texts(t, parsed(t, "program p\n"+text+"\nend")), "\n")
		if got != "program p\n"+want+"\nend program p" {
			t.Errorf("%q is printed as %q; want %q", text, got, want)
		}
	}
}

// The text is that of the lines, cut as the source cuts them.
func TestPrintText(t *testing.T) {
	f := body(api.Stmt{Kind: "print", Exprs: exprs(textExpr(strings.Repeat("ab ", 40)), x)})
	l, _ := Print(f)
	want, _ := source.WriteNew(l)
	got, err := PrintText(f)
	if got != want || err != api.OK || !strings.Contains(got, "&\n&") || strings.Count(got, "\n") != 4 {
		t.Errorf("PrintText = %q, %d", got, err)
	}
	if got, err := PrintText(parsed(t, "module m\nend")); got != "module m\nend module m\n" || err != api.OK {
		t.Errorf("PrintText = %q, %d", got, err)
	}
}

// More text than a source may have: the lines are there, but not the text.
func TestPrintTextLimit(t *testing.T) {
	statement := api.Stmt{Kind: "print", Exprs: exprs(textExpr(strings.Repeat("x", 80)))}
	size := len("print *, ''\n") + 80
	frame := len("program p\nend program p\n")
	most := (api.MaxText - frame) / size
	for n, want := range map[int]api.Errno{most: api.OK, most + 1: api.ErrLimit, api.MaxStmts - 2: api.ErrLimit} {
		f := body(slices.Repeat(stmts(statement), n)...)
		s, err := PrintText(f)
		if err != want || (s == "") != (want != api.OK) {
			t.Errorf("PrintText of %d statements: %d bytes, %d", n, len(s), err)
		}
		if l, err := Print(f); len(l) != n+2 || err != api.OK {
			t.Errorf("Print of %d statements: %d, %d", n, len(l), err)
		}
	}
}

// What cannot come of Parse is not printed.
func TestPrintErrors(t *testing.T) {
	for _, f := range []api.File{{}, {Units: []api.Unit{{}}}, body(api.Stmt{}), body(api.Stmt{Kind: "assign"}), declared(api.Decl{}), body(slices.Repeat(stmts(api.Stmt{Kind: "stop"}), api.MaxStmts-1)...)} {
		if l, err := Print(f); len(l) != 0 || err != api.ErrArg {
			t.Errorf("Print(%+v) = %v, %d", f, l, err)
		}
		if s, err := PrintText(f); s != "" || err != api.ErrArg {
			t.Errorf("PrintText(%+v) = %q, %d", f, s, err)
		}
	}
	for _, e := range wrongExprs() {
		if s, err := PrintExpr(e); s != "" || err != api.ErrArg {
			t.Errorf("PrintExpr(%+v) = %q, %d", e, s, err)
		}
	}
}
