package tree

import (
	"strings"
	"testing"

	"quadrat/api"
)

// Each statement by itself in a program, with its tree.
func TestStatements(t *testing.T) {
	i12 := exprs(intExpr(1), intExpr(2))
	for text, want := range map[string]api.Stmt{
		"a = b":                                    {Kind: "assign", Exprs: exprs(a, b)},
		"a(1, :) = -b(2:3)":                        {Kind: "assign", Exprs: exprs(itemExpr("a", intExpr(1), tripleExpr(missing, missing, missing)), opExpr("-", itemExpr("b", tripleExpr(intExpr(2), intExpr(3), missing))))},
		"a() = [b]":                                {Kind: "assign", Exprs: exprs(itemExpr("a"), listExpr(b))},
		"a(b(1)) = (b)":                            {Kind: "assign", Exprs: exprs(itemExpr("a", itemExpr("b", intExpr(1))), b)},
		"where (a > 0) b = c":                      {Kind: "where", Exprs: exprs(opExpr(">", a, intExpr(0)), b, c)},
		"where ((a)) b(:) = (c)":                   {Kind: "where", Exprs: exprs(a, itemExpr("b", tripleExpr(missing, missing, missing)), c)},
		"do i = 1, 2\nend do":                      {Kind: "do", Name: "i", Exprs: i12},
		"do i = 1, 2, -a\nend do":                  {Kind: "do", Name: "i", Exprs: append(exprs(i12...), opExpr("-", a))},
		"do concurrent (i = 1:2)\nend do":          {Kind: "loop", Name: "i", Exprs: i12},
		"do concurrent (i = 1:2, a)\nend do":       {Kind: "loop", Name: "i", Exprs: append(exprs(i12...), a)},
		"do concurrent = 1, 2\nend do":             {Kind: "do", Name: "concurrent", Exprs: i12},
		"do concurrent (concurrent = 1:2)\nend do": {Kind: "loop", Name: "concurrent", Exprs: i12},
		"if (a) then\nend if":                      {Kind: "if", Exprs: exprs(a)},
		"if (a) then\nelse\nend if":                {Kind: "if", Exprs: exprs(a)},
		"call a":                                   {Kind: "call", Name: "a"},
		"call a()":                                 {Kind: "call", Name: "a"},
		"call a(b)":                                {Kind: "call", Name: "a", Exprs: exprs(b)},
		"call a(b, a(:), 'x', (c))":                {Kind: "call", Name: "a", Exprs: exprs(b, itemExpr("a", tripleExpr(missing, missing, missing)), textExpr("x"), c)},
		"print *":                                  {Kind: "print"},
		"print*,a,'b; c! &',[1]":                   {Kind: "print", Exprs: exprs(a, textExpr("b; c! &"), listExpr(intExpr(1)))},
		"stop":                                     {Kind: "stop"},
		"exit":                                     {Kind: "exit"},
		"cycle":                                    {Kind: "cycle"},
		"continue":                                 {Kind: "none"},
		"CONTINUE":                                 {Kind: "none"},
	} {
		l := append([]api.Line{{Text: "program p", At: 1}}, lines(strings.Split(text, "\n")...)...)
		l = append(l, api.Line{Text: "end", At: 9})
		want.At = 1
		f := body(want)
		f.Units[0].At = 1
		checkParse(t, l, f)
	}
}

// No word is reserved: what looks like an assignment is one.
func TestWordsAsNames(t *testing.T) {
	words := strings.Fields("module program subroutine end use only implicit none integer logical real parameter where do concurrent if then else call print stop exit cycle continue contains")
	for _, w := range words {
		text := "program " + w + "\n" + w + " = 1\n" + w + "(1) = 2\n" + w + "(" + w + "(1)) = " + w + "\nif (" + w + ") " + w + " = 1\nif (" + w + ") " + w + "(1) = 1\nwhere (" + w + ") " + w + " = 1\ndo " + w + " = 1, 2\n" + w + " = 3\nend do\ndo concurrent (" + w + " = 1:2)\n" + w + "(1) = 3\nend do\ncall " + w + "(" + w + ")\nif (a) call " + w + "\nprint *, " + w + "\nif (a) then\n" + w + " = 1\nelse\n" + w + "(1) = 1\nend if\nend program " + w + "\n"
		f := parsed(t, text)
		n := nameExpr(w)
		one := itemExpr(w, intExpr(1))
		assigns := func(target, value api.Expr) api.Stmt {
			return api.Stmt{Kind: "assign", Exprs: exprs(target, value)}
		}
		want := api.File{Units: []api.Unit{{Kind: "program", Name: w, Body: stmts(
			assigns(n, intExpr(1)), assigns(one, intExpr(2)), assigns(itemExpr(w, one), n),
			api.Stmt{Kind: "if", Exprs: exprs(n), Body: stmts(assigns(n, intExpr(1)))}, api.Stmt{Kind: "if", Exprs: exprs(n), Body: stmts(assigns(one, intExpr(1)))},
			api.Stmt{Kind: "where", Exprs: exprs(n, n, intExpr(1))},
			api.Stmt{Kind: "do", Name: w, Exprs: exprs(intExpr(1), intExpr(2)), Body: stmts(assigns(n, intExpr(3)))},
			api.Stmt{Kind: "loop", Name: w, Exprs: exprs(intExpr(1), intExpr(2)), Body: stmts(assigns(one, intExpr(3)))},
			api.Stmt{Kind: "call", Name: w, Exprs: exprs(n)}, api.Stmt{Kind: "if", Exprs: exprs(a), Body: stmts(api.Stmt{Kind: "call", Name: w})},
			api.Stmt{Kind: "print", Exprs: exprs(n)},
			api.Stmt{Kind: "if", Exprs: exprs(a), Body: stmts(assigns(n, intExpr(1))), Other: stmts(assigns(one, intExpr(1)))},
		)}}}
		if !equal(noLines(f), want) {
			t.Errorf("%s as a name: %+v", w, f)
		}
		// as other names
		text = "module " + w + "\nuse " + w + ", " + w + " => " + w + "\nuse " + w + ", only: " + w + "\nuse " + w + ", only: " + w + " => " + w + ", " + w + "\ninteger, parameter :: " + w + "(" + w + ":), " + w + " = " + w + "\ncontains\nsubroutine " + w + "(" + w + ")\nend subroutine " + w + "\nend\n"
		same := api.Rename{Local: w, Name: w}
		want = api.File{Units: []api.Unit{{Kind: "module", Name: w,
			Uses:     []api.Use{{Module: w, Names: []api.Rename{same}}, {Module: w, Only: true, Names: []api.Rename{same}}, {Module: w, Only: true, Names: []api.Rename{same, same}}},
			Decls:    []api.Decl{{Kind: api.KInt, Name: w, Parameter: true, Bounds: exprs(tripleExpr(n, missing, missing))}, {Kind: api.KInt, Name: w, Parameter: true, Init: exprs(n)}},
			Contains: []api.Unit{{Kind: "subroutine", Name: w, Args: []string{w}}},
		}}}
		if f := parsed(t, text); !equal(noLines(f), want) {
			t.Errorf("%s as a name: %+v", w, f)
		}
	}
}

// noLines returns a file without its lines.
func noLines(f api.File) api.File {
	return api.File{Units: unitsWithoutLines(f.Units)}
}

func unitsWithoutLines(l []api.Unit) (out []api.Unit) {
	for _, u := range l {
		u.At = 0
		u.Body = stmtsWithoutLines(u.Body)
		u.Contains = unitsWithoutLines(u.Contains)
		out = append(out, u)
	}
	return out
}

func stmtsWithoutLines(l []api.Stmt) (out []api.Stmt) {
	for _, s := range l {
		s.At = 0
		s.Body = stmtsWithoutLines(s.Body)
		s.Other = stmtsWithoutLines(s.Other)
		out = append(out, s)
	}
	return out
}

func TestLines(t *testing.T) {
	l := []api.Line{{Text: "subroutine s", At: 7}, {Text: "do 5 i = 1, 2", At: 7, Label: 3}, {Text: "if (a) stop", At: 9}, {Text: "if (a) then", At: 10}, {Text: "exit", At: 10}, {Text: "else", At: 12}, {Text: "call b", At: 13}, {Text: "end if", At: 14}, {Text: "continue", At: 20, Label: 5}, {Text: "contains", At: 21}, {Text: "subroutine a", At: 22}, {Text: "print *", At: -5}, {Text: "end", At: 0}, {Text: "end", At: 3}, {Text: "program p", At: 40}, {Text: "end", At: 41}}
	checkParse(t, l, api.File{Units: []api.Unit{
		{Kind: "subroutine", Name: "s", At: 7, Body: stmts(api.Stmt{Kind: "do", Name: "i", At: 7, Exprs: exprs(intExpr(1), intExpr(2)), Body: stmts(
			api.Stmt{Kind: "if", At: 9, Exprs: exprs(a), Body: stmts(api.Stmt{Kind: "stop", At: 9})},
			api.Stmt{Kind: "if", At: 10, Exprs: exprs(a), Body: stmts(api.Stmt{Kind: "exit", At: 10}), Other: stmts(api.Stmt{Kind: "call", Name: "b", At: 13})},
			api.Stmt{Kind: "none", At: 20},
		)}), Contains: []api.Unit{{Kind: "subroutine", Name: "a", At: 22, Body: stmts(api.Stmt{Kind: "print", At: -5})}}},
		{Kind: "program", Name: "p", At: 40},
	}})
}

// The if of one statement takes all that are no blocks.
func TestIfOfOne(t *testing.T) {
	for text, want := range map[string]api.Stmt{
		"a = b": {Kind: "assign", Exprs: exprs(a, b)}, "if(1) = 2": {Kind: "assign", Exprs: exprs(itemExpr("if", intExpr(1)), intExpr(2))}, "then = 5": {Kind: "assign", Exprs: exprs(nameExpr("then"), intExpr(5))}, "do = 5": {Kind: "assign", Exprs: exprs(nameExpr("do"), intExpr(5))},
		"where (a) b = c": {Kind: "where", Exprs: exprs(a, b, c)}, "where(a) = c": {Kind: "assign", Exprs: exprs(itemExpr("where", a), c)},
		"call s": {Kind: "call", Name: "s"}, "call s(x)": {Kind: "call", Name: "s", Exprs: exprs(x)}, "print *": {Kind: "print"}, "print *, x": {Kind: "print", Exprs: exprs(x)}, "stop": {Kind: "stop"}, "exit": {Kind: "exit"}, "cycle": {Kind: "cycle"}, "continue": {Kind: "none"},
	} {
		f := parsed(t, "program p\nif ((a) .or. f(b)) "+text+"\nend")
		if !equal(noLines(f), body(api.Stmt{Kind: "if", Exprs: exprs(opExpr(".or.", a, itemExpr("f", b))), Body: stmts(want)})) {
			t.Errorf("if and %q: %+v", text, f)
		}
	}
	for _, text := range []string{"", "if (b) stop", "if (b) a = b", "if (b) then", "do i = 1, 2", "do concurrent (i = 1:2)", "do 10 i = 1, 2", "end", "end if", "else", "contains", "integer :: x", "use m", "implicit none", "then then", "10 stop", "then stop", "(b) = 2", "stop stop", "1 = 2"} {
		checkWrong(t, "program p\nif (a) "+text+"\nend\n", 2, api.ErrForm)
	}
}

func TestDoWithLabel(t *testing.T) {
	do := func(name string, l ...api.Stmt) api.Stmt {
		return api.Stmt{Kind: "do", Name: name, Exprs: exprs(intExpr(1), intExpr(2)), Body: l}
	}
	none := api.Stmt{Kind: "none"}
	for text, want := range map[string]api.File{
		"do 10 i = 1, 2\n10 continue":                                                      body(do("i", none)),
		"do 0010 i = 1, 2\n10 continue":                                                    body(do("i", none)),
		"do 99999 i = 1, 2\n099999 continue":                                               body(do("i", none)),
		"do 1 i = 1, 2\ncontinue\n2 continue\n10 continue\n1 continue":                     body(do("i", none, none, none, none)),
		"do 1 i = 1, 2\n1 stop\n1 continue = 2\n1 if (a) continue\n1 continue":             body(do("i", api.Stmt{Kind: "stop"}, api.Stmt{Kind: "assign", Exprs: exprs(nameExpr("continue"), intExpr(2))}, api.Stmt{Kind: "if", Exprs: exprs(a), Body: stmts(none)}, none)),
		"do 1 i = 1, 2\ndo 1 j = 1, 2\n1 continue\n1 continue":                             body(do("i", do("j", none), none)),
		"do 1 i = 1, 2\ndo 2 j = 1, 2\n1 continue\n2 continue\n1 continue":                 body(do("i", do("j", none, none), none)),
		"do 1 i = 1, 2\ndo j = 1, 2\n1 continue\n1 end do\n1 continue":                     body(do("i", do("j", none), none)),
		"do 1 i = 1, 2\nif (a) then\n1 continue\n1 else\n1 continue\n1 end if\n1 continue": body(do("i", api.Stmt{Kind: "if", Exprs: exprs(a), Body: stmts(none), Other: stmts(none)}, none)),
		"if (a) then\ndo 1 i = 1, 2\n1 continue\nelse\ndo 1 i = 1, 2\n1 continue\nend if":  body(api.Stmt{Kind: "if", Exprs: exprs(a), Body: stmts(do("i", none)), Other: stmts(do("i", none))}),
		"1 do 1 i = 1, 2\n1 continue\n1 continue":                                          body(do("i", none), none),
		"do 1 concurrent = 1, 2\n1 continue":                                               body(do("concurrent", none)),
		"1 do i = 1, 2\n1 continue\n1 end do":                                              body(do("i", none)),
	} {
		if f := parsed(t, "1 program p\n"+text+"\n1 end\n"); !equal(noLines(f), want) {
			t.Errorf("%q: %+v", text, f)
		}
	}
	for text, line := range map[string]int{
		"do 10 i = 1, 2\nend do": 3, "do 10 i = 1, 2\n10 end do": 3, "do 10 i = 1, 2\ncontinue": 4, "do 10 i = 1, 2\n1 continue": 4, "do 10 i = 1, 2\n10 stop": 4, "do 10 i = 1, 2": 3,
		"do 10 i = 1, 2\ndo 10 j = 1, 2\n10 continue": 5, "do 1 i = 1, 2\ndo 2 j = 1, 2\n2 continue\n2 continue": 6, "do 10 i = 1, 2\nif (a) then\n10 continue\nend if": 6, "if (a) then\ndo 10 i = 1, 2\nend if\n10 continue": 4, "if (a) then\ndo 10 i = 1, 2\nelse\n10 continue": 4, "do 10 i = 1, 2\n10 continue = 4": 4, "do 10 i = 1, 2\n10 if (a) continue": 4,
		"do 10 i = 1, 2\n10 continue\nend do": 4, "do 0 i = 1, 2\n10 continue": 2, "do 000 i = 1, 2": 2, "do 1. i = 1, 2": 2, "do -1 i = 1, 2": 2, "do 100000 i = 1, 2\ncontinue": 4, "do 4294967297 i = 1, 2\n1 continue": 4, "do 10 concurrent (i = 1:2)\n10 continue": 2, "do 10, i = 1, 2\n10 continue": 2, "do a i = 1, 2": 2, "do 10 20 i = 1, 2": 2,
	} {
		checkWrong(t, "program p\n"+text+"\nend\n", line, api.ErrForm)
	}
}

func TestUnits(t *testing.T) {
	for text, want := range map[string]api.File{
		"program p\nend":                    {Units: []api.Unit{{Kind: "program", Name: "p"}}},
		"program p\nend program":            {Units: []api.Unit{{Kind: "program", Name: "p"}}},
		"PROGRAM P\nEND PROGRAM P":          {Units: []api.Unit{{Kind: "program", Name: "p"}}},
		"module m\nend":                     {Units: []api.Unit{{Kind: "module", Name: "m"}}},
		"module m\nend module m":            {Units: []api.Unit{{Kind: "module", Name: "m"}}},
		"subroutine s\nend":                 {Units: []api.Unit{{Kind: "subroutine", Name: "s"}}},
		"subroutine s()\nend subroutine":    {Units: []api.Unit{{Kind: "subroutine", Name: "s"}}},
		"subroutine s(a)\nend subroutine s": {Units: []api.Unit{{Kind: "subroutine", Name: "s", Args: []string{"a"}}}},
		"subroutine s(a, s, a)\nend":        {Units: []api.Unit{{Kind: "subroutine", Name: "s", Args: []string{"a", "s", "a"}}}},
		"program p\nend;module p\nend;program p\nend;subroutine s\nend": {Units: []api.Unit{{Kind: "program", Name: "p"}, {Kind: "module", Name: "p"}, {Kind: "program", Name: "p"}, {Kind: "subroutine", Name: "s"}}},
		"program p\nimplicit none\nend":                                 {Units: []api.Unit{{Kind: "program", Name: "p", None: true}}},
		"module m\nimplicit none\nend":                                  {Units: []api.Unit{{Kind: "module", Name: "m", None: true}}},
		"program p\ncontains\nend":                                      {Units: []api.Unit{{Kind: "program", Name: "p"}}},
		"module m\ncontains\nsubroutine s\nend\nend":                    {Units: []api.Unit{{Kind: "module", Name: "m", Contains: []api.Unit{{Kind: "subroutine", Name: "s"}}}}},
		"subroutine s\nstop\ncontains\nsubroutine a(x)\nuse m\nimplicit none\nreal :: x\nexit\nend\nsubroutine b\nend subroutine b\nend subroutine s": {Units: []api.Unit{{Kind: "subroutine", Name: "s", Body: stmts(api.Stmt{Kind: "stop"}), Contains: []api.Unit{
			{Kind: "subroutine", Name: "a", Args: []string{"x"}, Uses: []api.Use{{Module: "m"}}, None: true, Decls: []api.Decl{{Kind: api.KReal4, Name: "x"}}, Body: stmts(api.Stmt{Kind: "exit"})}, {Kind: "subroutine", Name: "b"}}}}},
		"program p\nuse m\nuse m, a => b\nuse m, a => b, c => c\nuse m, only: a\nuse m, only: a => b, c, i => i\nuse m, only => x\nuse only, only: only => only\nend": {Units: []api.Unit{{Kind: "program", Name: "p", Uses: []api.Use{
			{Module: "m"}, {Module: "m", Names: []api.Rename{{Local: "a", Name: "b"}}}, {Module: "m", Names: []api.Rename{{Local: "a", Name: "b"}, {Local: "c", Name: "c"}}},
			{Module: "m", Only: true, Names: []api.Rename{{Local: "a", Name: "a"}}}, {Module: "m", Only: true, Names: []api.Rename{{Local: "a", Name: "b"}, {Local: "c", Name: "c"}, {Local: "i", Name: "i"}}},
			{Module: "m", Names: []api.Rename{{Local: "only", Name: "x"}}}, {Module: "only", Only: true, Names: []api.Rename{{Local: "only", Name: "only"}}},
		}}}},
	} {
		if f := parsed(t, text); !equal(noLines(f), want) {
			t.Errorf("%q: %+v", text, f)
		}
	}
}

func TestDeclarations(t *testing.T) {
	one := intExpr(1)
	for text, want := range map[string][]api.Decl{
		"integer :: x":                    {{Kind: api.KInt, Name: "x"}},
		"logical :: x":                    {{Kind: api.KLogical, Name: "x"}},
		"real :: x":                       {{Kind: api.KReal4, Name: "x"}},
		"real(4) :: x":                    {{Kind: api.KReal4, Name: "x"}},
		"REAL ( 8 ) :: X":                 {{Kind: api.KReal8, Name: "x"}},
		"real,parameter::x=1":             {{Kind: api.KReal4, Name: "x", Parameter: true, Init: exprs(one)}},
		"real(8), parameter :: x = -a, b": {{Kind: api.KReal8, Name: "x", Parameter: true, Init: exprs(opExpr("-", a))}, {Kind: api.KReal8, Name: "b", Parameter: true}},
		"logical :: a = .true., a = a .or. b, c(1)":     {{Kind: api.KLogical, Name: "a", Init: exprs(logicalExpr(1))}, {Kind: api.KLogical, Name: "a", Init: exprs(opExpr(".or.", a, b))}, {Kind: api.KLogical, Name: "c", Bounds: exprs(tripleExpr(one, one, missing))}},
		"integer :: x(a), x(a:b), x(:), x(a:)":          {{Kind: api.KInt, Name: "x", Bounds: exprs(tripleExpr(one, a, missing))}, {Kind: api.KInt, Name: "x", Bounds: exprs(tripleExpr(a, b, missing))}, {Kind: api.KInt, Name: "x", Bounds: exprs(tripleExpr(one, missing, missing))}, {Kind: api.KInt, Name: "x", Bounds: exprs(tripleExpr(a, missing, missing))}},
		"integer :: x(1, :, -a:b + 1) = [a(:), b]":      {{Kind: api.KInt, Name: "x", Bounds: exprs(tripleExpr(one, one, missing), tripleExpr(one, missing, missing), tripleExpr(opExpr("-", a), opExpr("+", b, one), missing)), Init: exprs(listExpr(itemExpr("a", tripleExpr(missing, missing, missing)), b))}},
		"integer :: x((a)), x((1):), x(f(1:2)), x(1:1)": {{Kind: api.KInt, Name: "x", Bounds: exprs(tripleExpr(one, a, missing))}, {Kind: api.KInt, Name: "x", Bounds: exprs(tripleExpr(one, missing, missing))}, {Kind: api.KInt, Name: "x", Bounds: exprs(tripleExpr(one, itemExpr("f", tripleExpr(one, intExpr(2), missing)), missing))}, {Kind: api.KInt, Name: "x", Bounds: exprs(tripleExpr(one, one, missing))}},
		"integer :: x\nlogical :: x\nreal :: x":         {{Kind: api.KInt, Name: "x"}, {Kind: api.KLogical, Name: "x"}, {Kind: api.KReal4, Name: "x"}},
	} {
		if f := parsed(t, "module m\n"+text+"\nend\n"); !equal(noLines(f), declared(want...)) {
			t.Errorf("%q: %+v", text, f)
		}
	}
}
