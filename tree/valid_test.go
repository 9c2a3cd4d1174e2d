package tree

import (
	"slices"
	"strings"
	"testing"

	"quadrat/api"
)

// wrongExprs are expressions that no text has.
func wrongExprs() []api.Expr {
	one := exprs(a)
	return []api.Expr{
		{}, {Kind: "none"}, {Kind: "word", Text: "a"}, {Kind: "Name", Text: "a"}, {Kind: "triple"}, tripleExpr(missing, missing, missing), tripleExpr(a, a, a),
		{Kind: "int", N: -1}, {Kind: "int", N: api.MaxInt + 1}, {Kind: "int", N: 1, Text: "1"}, {Kind: "int", N: 1, Kids: one},
		{Kind: "real"}, {Kind: "real", Text: "1"}, {Kind: "real", Text: "-1."}, {Kind: "real", Text: "1.D0"}, {Kind: "real", Text: "1.e1234"}, {Kind: "real", Text: "1.", N: 1}, {Kind: "real", Text: "1.", Kids: one}, {Kind: "real", Text: "a"},
		{Kind: "logical", N: 2}, {Kind: "logical", N: -1}, {Kind: "logical", N: 1, Text: ".true."}, {Kind: "logical", Kids: one},
		{Kind: "text", Text: "a\n"}, {Kind: "text", Text: "\x7f"}, {Kind: "text", Text: "é"}, {Kind: "text", Text: "a", N: 1}, {Kind: "text", Text: "a", Kids: one},
		{Kind: "name"}, {Kind: "name", Text: "A"}, {Kind: "name", Text: "1"}, {Kind: "name", Text: "a b"}, {Kind: "name", Text: "abcdefghijklm"}, {Kind: "name", Text: "a", N: 1}, {Kind: "name", Text: "a", Kids: one}, {Kind: "name", Text: ".true."},
		{Kind: "item"}, {Kind: "item", Text: "A"}, {Kind: "item", Text: "1", Kids: one}, {Kind: "item", Text: "f", N: 1}, itemExpr("f", missing), itemExpr("f", a, missing), itemExpr("f", api.Expr{}), itemExpr("f", slices.Repeat(one, 101)...), itemExpr("f", intExpr(-1)),
		itemExpr("f", tripleExpr(a, api.Expr{}, a)), itemExpr("f", tripleExpr(a, a, intExpr(-1))), itemExpr("f", tripleExpr(tripleExpr(a, a, a), a, a)), itemExpr("f", api.Expr{Kind: "triple", Kids: exprs(a, a)}), itemExpr("f", api.Expr{Kind: "triple", Kids: exprs(a, a, a, a)}), itemExpr("f", api.Expr{Kind: "triple", Text: ":", Kids: exprs(a, a, a)}), itemExpr("f", api.Expr{Kind: "triple", N: 1, Kids: exprs(a, a, a)}), itemExpr("f", tripleExpr(a, a, api.Expr{Kind: "none", N: 1})), itemExpr("f", tripleExpr(a, api.Expr{Kind: "none", Text: "x"}, a)), itemExpr("f", tripleExpr(api.Expr{Kind: "none", Kids: one}, a, a)),
		{Kind: "list"}, listExpr(missing), listExpr(a, missing), listExpr(tripleExpr(a, a, a)), listExpr(slices.Repeat(one, 101)...), {Kind: "list", Text: "[", Kids: one}, {Kind: "list", N: 1, Kids: one}, listExpr(a, api.Expr{Kind: "name"}),
		opExpr("+"), opExpr("*", a), opExpr("/", a), opExpr("==", a), opExpr(".and.", a), opExpr(".or.", a), opExpr(".not."), opExpr(".not.", a, b), opExpr("", a, b), opExpr("**", a, b), opExpr(".eqv.", a, b), opExpr("+ ", a, b), opExpr("=", a, b), opExpr(".AND.", a, b), opExpr("+", a, b, c), opExpr(",", a, b), opExpr("%", a, b), opExpr("=>", a, b), opExpr("", a), opExpr(":", a, b), opExpr("(", a),
		opExpr("+", a, missing), opExpr("-", missing), opExpr("+", tripleExpr(a, a, a), b), opExpr("+", api.Expr{}, b), opExpr(".not.", api.Expr{}), {Kind: "op", Text: "+", N: 1, Kids: exprs(a, b)}, opExpr("-", intExpr(-1)),
	}
}

// wrongStmts are statements that no text has; each expression and each block of these would be right elsewhere.
func wrongStmts() []api.Stmt {
	stop := stmts(api.Stmt{Kind: "stop"})
	l := stmts(
		api.Stmt{}, api.Stmt{Kind: "Stop"}, api.Stmt{Kind: "continue"}, api.Stmt{Kind: "print *"}, api.Stmt{Kind: "word"},
		api.Stmt{Kind: "assign"}, api.Stmt{Kind: "assign", Exprs: exprs(a)}, api.Stmt{Kind: "assign", Exprs: exprs(a, b, c)}, api.Stmt{Kind: "assign", Exprs: exprs(intExpr(1), a)}, api.Stmt{Kind: "assign", Exprs: exprs(listExpr(a), a)}, api.Stmt{Kind: "assign", Exprs: exprs(opExpr("-", a), a)}, api.Stmt{Kind: "assign", Exprs: exprs(textExpr("a"), a)}, api.Stmt{Kind: "assign", Exprs: exprs(realExpr("1."), a)}, api.Stmt{Kind: "assign", Exprs: exprs(logicalExpr(1), a)}, api.Stmt{Kind: "assign", Name: "a", Exprs: exprs(a, b)}, api.Stmt{Kind: "assign", Exprs: exprs(a, b), Body: stop}, api.Stmt{Kind: "assign", Exprs: exprs(a, b), Other: stop},
		api.Stmt{Kind: "where", Exprs: exprs(a, b)}, api.Stmt{Kind: "where", Exprs: exprs(a, b, c, a)}, api.Stmt{Kind: "where", Exprs: exprs(a, intExpr(1), c)}, api.Stmt{Kind: "where", Name: "a", Exprs: exprs(a, b, c)}, api.Stmt{Kind: "where", Exprs: exprs(a, b, c), Body: stop}, api.Stmt{Kind: "where", Exprs: exprs(a, b, c), Other: stop},
		api.Stmt{Kind: "call"}, api.Stmt{Kind: "call", Name: "A"}, api.Stmt{Kind: "call", Name: "1"}, api.Stmt{Kind: "call", Name: "a", Body: stop}, api.Stmt{Kind: "call", Name: "a", Other: stop},
		api.Stmt{Kind: "print", Name: "a"}, api.Stmt{Kind: "print", Body: stop}, api.Stmt{Kind: "print", Other: stop},
		api.Stmt{Kind: "if"}, api.Stmt{Kind: "if", Exprs: exprs(a, b)}, api.Stmt{Kind: "if", Name: "a", Exprs: exprs(a)}, api.Stmt{Kind: "if", Exprs: exprs(a), Body: stmts(api.Stmt{})}, api.Stmt{Kind: "if", Exprs: exprs(a), Body: stop, Other: stmts(api.Stmt{})},
	)
	for _, kind := range []string{"do", "loop"} {
		l = append(l, api.Stmt{Kind: kind, Exprs: exprs(a, b)}, api.Stmt{Kind: kind, Name: "I", Exprs: exprs(a, b)}, api.Stmt{Kind: kind, Name: "i"}, api.Stmt{Kind: kind, Name: "i", Exprs: exprs(a)}, api.Stmt{Kind: kind, Name: "i", Exprs: exprs(a, b, c, a)}, api.Stmt{Kind: kind, Name: "i", Exprs: exprs(a, b), Other: stop}, api.Stmt{Kind: kind, Name: "i", Exprs: exprs(a, b), Body: stmts(api.Stmt{})}, api.Stmt{Kind: kind, Name: "i", Exprs: exprs(a, missing)})
	}
	for _, kind := range []string{"stop", "exit", "cycle", "none"} {
		l = append(l, api.Stmt{Kind: kind, Name: "a"}, api.Stmt{Kind: kind, Exprs: exprs(a)}, api.Stmt{Kind: kind, Body: stop}, api.Stmt{Kind: kind, Other: stop})
	}
	for _, e := range wrongExprs() {
		l = append(l, api.Stmt{Kind: "assign", Exprs: exprs(e, a)}, api.Stmt{Kind: "assign", Exprs: exprs(a, e)}, api.Stmt{Kind: "where", Exprs: exprs(e, a, b)}, api.Stmt{Kind: "where", Exprs: exprs(a, e, b)}, api.Stmt{Kind: "where", Exprs: exprs(a, b, e)},
			api.Stmt{Kind: "if", Exprs: exprs(e)}, api.Stmt{Kind: "call", Name: "s", Exprs: exprs(a, e)}, api.Stmt{Kind: "print", Exprs: exprs(a, e)}, api.Stmt{Kind: "do", Name: "i", Exprs: exprs(e, a)}, api.Stmt{Kind: "do", Name: "i", Exprs: exprs(a, e)}, api.Stmt{Kind: "loop", Name: "i", Exprs: exprs(a, b, e)})
	}
	return l
}

func checkValid(t *testing.T, f api.File, want bool) {
	t.Helper()
	if Valid(f) != want || (Count(f) > 0) != want {
		t.Errorf("Valid(%+v) is %v, Count %d", f, !want, Count(f))
	}
	l, err := Print(f)
	if (err == api.OK) != want {
		t.Errorf("Print(%+v): %d", f, err)
	}
	if !want {
		return
	}
	if back, at, err := Parse(l); err != api.OK || !equal(noLines(back), noLines(f)) {
		t.Errorf("%+v is not read back: %d, %d", f, at, err)
	}
}

func TestValidStatements(t *testing.T) {
	for _, s := range wrongStmts() {
		checkValid(t, body(s), false)
		checkValid(t, body(api.Stmt{Kind: "stop"}, api.Stmt{Kind: "do", Name: "i", Exprs: exprs(a, b), Body: stmts(s)}), false)
		checkValid(t, body(api.Stmt{Kind: "if", Exprs: exprs(a), Other: stmts(s)}), false)
		checkValid(t, api.File{Units: []api.Unit{{Kind: "module", Name: "m", Contains: []api.Unit{{Kind: "subroutine", Name: "s", Body: stmts(s)}}}}}, false)
	}
	for _, s := range stmts(
		api.Stmt{Kind: "assign", At: -3, Exprs: exprs(a, b)}, api.Stmt{Kind: "assign", Exprs: exprs(itemExpr("a"), b)}, api.Stmt{Kind: "where", Exprs: exprs(textExpr(""), itemExpr("a", tripleExpr(missing, missing, missing)), b)},
		api.Stmt{Kind: "call", Name: "a"}, api.Stmt{Kind: "call", Name: "a", Exprs: slices.Repeat(exprs(a), 1000)}, api.Stmt{Kind: "print"}, api.Stmt{Kind: "print", At: 9, Exprs: slices.Repeat(exprs(a), 1000)}, api.Stmt{Kind: "if", Exprs: exprs(a), Other: stmts(api.Stmt{Kind: "none", At: 7})},
		api.Stmt{Kind: "do", Name: "i", Exprs: exprs(a, b)}, api.Stmt{Kind: "loop", Name: "i", Exprs: exprs(a, b, c), Body: stmts(api.Stmt{Kind: "stop"}, api.Stmt{Kind: "exit"}, api.Stmt{Kind: "cycle"})}, api.Stmt{Kind: "print", Exprs: exprs(itemExpr("f", slices.Repeat(exprs(a), 100)...), listExpr(slices.Repeat(exprs(a), 100)...))},
	) {
		checkValid(t, body(s), true)
	}
}

func TestValidUnits(t *testing.T) {
	unit := func(kind string) api.Unit { return api.Unit{Kind: kind, Name: "u"} }
	with := func(kind string, change func(u *api.Unit)) api.File {
		u := unit(kind)
		change(&u)
		return api.File{Units: []api.Unit{u}}
	}
	checkValid(t, api.File{}, false)
	checkValid(t, api.File{Units: []api.Unit{}}, false)
	for _, kind := range []string{"module", "program", "subroutine"} {
		sub := kind == "subroutine"
		checkValid(t, with(kind, func(u *api.Unit) { u.At = -1 }), true)
		checkValid(t, with(kind, func(u *api.Unit) { u.None = true }), true)
		checkValid(t, with(kind, func(u *api.Unit) { u.Args = []string{"a", "b", "a"} }), sub)
		checkValid(t, with(kind, func(u *api.Unit) { u.Args = []string{"a", ""} }), false)
		checkValid(t, with(kind, func(u *api.Unit) { u.Args = []string{"A"} }), false)
		checkValid(t, with(kind, func(u *api.Unit) { u.Body = stmts(api.Stmt{Kind: "stop"}) }), kind != "module")
		checkValid(t, with(kind, func(u *api.Unit) { u.Name = "" }), false)
		checkValid(t, with(kind, func(u *api.Unit) { u.Name = "U" }), false)
		checkValid(t, with(kind, func(u *api.Unit) { u.Name = "end" }), true)
		checkValid(t, with(kind, func(u *api.Unit) { u.Kind = strings.ToUpper(kind) }), false)
		checkValid(t, with(kind, func(u *api.Unit) { u.Kind = "" }), false)
		checkValid(t, with(kind, func(u *api.Unit) { u.Contains = []api.Unit{unit("subroutine"), unit("subroutine")} }), true)
		checkValid(t, with(kind, func(u *api.Unit) { u.Contains = []api.Unit{unit("subroutine"), unit("program")} }), false)
		checkValid(t, with(kind, func(u *api.Unit) { u.Contains = []api.Unit{unit("module")} }), false)
		checkValid(t, with(kind, func(u *api.Unit) { u.Contains = []api.Unit{{}} }), false)
		inner := unit("subroutine")
		inner.Contains = []api.Unit{unit("subroutine")}
		checkValid(t, with(kind, func(u *api.Unit) { u.Contains = []api.Unit{inner} }), false)
		checkValid(t, api.File{Units: []api.Unit{unit(kind), unit(kind), unit("program")}}, true)
		checkValid(t, api.File{Units: []api.Unit{unit(kind), {}}}, false)
		for _, r := range []struct {
			use  api.Use
			want bool
		}{
			{api.Use{Module: "m"}, true}, {api.Use{}, false}, {api.Use{Module: "M"}, false}, {api.Use{Module: "m", Only: true}, false}, {api.Use{Module: "m", Only: true, Names: []api.Rename{}}, false},
			{api.Use{Module: "m", Names: []api.Rename{{Local: "a", Name: "a"}}}, true}, {api.Use{Module: "m", Only: true, Names: []api.Rename{{Local: "a", Name: "a"}, {Local: "a", Name: "b"}}}, true},
			{api.Use{Module: "m", Names: []api.Rename{{Local: "a"}}}, false}, {api.Use{Module: "m", Only: true, Names: []api.Rename{{Local: "a"}}}, false}, {api.Use{Module: "m", Only: true, Names: []api.Rename{{Local: "a", Name: "a"}, {Name: "a"}}}, false}, {api.Use{Module: "m", Names: []api.Rename{{Local: "A", Name: "a"}}}, false}, {api.Use{Module: "m", Names: []api.Rename{{Local: "a", Name: "1"}}}, false},
		} {
			checkValid(t, with(kind, func(u *api.Unit) { u.Uses = []api.Use{{Module: "n"}, r.use} }), r.want)
		}
	}
}

func TestValidDeclarations(t *testing.T) {
	one := tripleExpr(intExpr(1), a, missing)
	for _, d := range []api.Decl{
		{Kind: api.KInt, Name: "x"}, {Kind: api.KLogical, Name: "x", Parameter: true}, {Kind: api.KReal4, Name: "x", Init: exprs(a)}, {Kind: api.KReal8, Name: "x", Parameter: true, Bounds: exprs(one, one, one), Init: exprs(textExpr("a"))},
		{Kind: api.KInt, Name: "x", Bounds: exprs(tripleExpr(a, missing, missing))}, {Kind: api.KInt, Name: "x", Bounds: exprs(tripleExpr(intExpr(1), missing, missing))}, {Kind: api.KInt, Name: "x", Bounds: exprs(tripleExpr(opExpr("-", a), opExpr(".or.", a, b), missing))},
	} {
		checkValid(t, declared(d), true)
		checkValid(t, declared(api.Decl{Kind: api.KInt, Name: "x"}, d, d), true)
	}
	wrong := []api.Decl{
		{}, {Name: "x"}, {Kind: 5, Name: "x"}, {Kind: -1, Name: "x"}, {Kind: api.KInt}, {Kind: api.KInt, Name: "X"}, {Kind: api.KInt, Name: "1"}, {Kind: api.KInt, Name: "x", Bounds: exprs(one, one, one, one)}, {Kind: api.KInt, Name: "x", Init: exprs(a, b)},
	}
	for _, b := range exprs(
		api.Expr{}, a, intExpr(1), missing, tripleExpr(missing, missing, missing), tripleExpr(missing, a, missing), tripleExpr(a, a, a), tripleExpr(a, missing, a), api.Expr{Kind: "triple", Kids: exprs(a, b)}, api.Expr{Kind: "triple", Kids: exprs(a, b, missing, missing)}, api.Expr{Kind: "triple", Text: "x", Kids: exprs(a, b, missing)}, api.Expr{Kind: "triple", N: 1, Kids: exprs(a, b, missing)},
		api.Expr{Kind: "list", Kids: exprs(a, b, missing)}, tripleExpr(one, a, missing), tripleExpr(a, one, missing), tripleExpr(a, b, api.Expr{}), tripleExpr(a, b, api.Expr{Kind: "none", N: 1}), tripleExpr(a, api.Expr{Kind: "none", Text: "x"}, missing), api.Expr{Kind: "triple"},
	) {
		wrong = append(wrong, api.Decl{Kind: api.KInt, Name: "x", Bounds: exprs(b)}, api.Decl{Kind: api.KInt, Name: "x", Bounds: exprs(one, b)})
	}
	for _, e := range wrongExprs() {
		wrong = append(wrong, api.Decl{Kind: api.KInt, Name: "x", Init: exprs(e)}, api.Decl{Kind: api.KInt, Name: "x", Bounds: exprs(tripleExpr(e, a, missing))})
		if e.Kind != "none" {
			wrong = append(wrong, api.Decl{Kind: api.KInt, Name: "x", Bounds: exprs(tripleExpr(a, e, missing))})
		}
	}
	for _, d := range wrong {
		checkValid(t, declared(d), false)
	}
}

func TestValidLevels(t *testing.T) {
	e20, e21 := a, opExpr("-", a)
	for range 19 {
		e20, e21 = opExpr("-", e20), opExpr("-", e21)
	}
	place := func(e api.Expr) []api.File {
		return []api.File{
			body(api.Stmt{Kind: "assign", Exprs: exprs(a, e)}), body(api.Stmt{Kind: "where", Exprs: exprs(e, a, b)}), body(api.Stmt{Kind: "if", Exprs: exprs(e)}), body(api.Stmt{Kind: "print", Exprs: exprs(a, e)}), body(api.Stmt{Kind: "call", Name: "s", Exprs: exprs(a, e)}), body(api.Stmt{Kind: "loop", Name: "i", Exprs: exprs(a, b, e)}), body(api.Stmt{Kind: "do", Name: "i", Exprs: exprs(a, b, e)}),
			declared(api.Decl{Kind: api.KInt, Name: "x", Init: exprs(e)}), declared(api.Decl{Kind: api.KInt, Name: "x", Bounds: exprs(tripleExpr(e, a, missing))}), declared(api.Decl{Kind: api.KInt, Name: "x", Bounds: exprs(tripleExpr(a, e, missing))}),
		}
	}
	for _, f := range place(e20) {
		checkValid(t, f, true)
	}
	for _, f := range place(e21) {
		checkValid(t, f, false)
	}
	checkValid(t, body(api.Stmt{Kind: "assign", Exprs: exprs(itemExpr("a", e20), b)}), false)
	checkValid(t, body(api.Stmt{Kind: "assign", Exprs: exprs(itemExpr("a", e20.Kids[0]), b)}), true)

	for _, outer := range stmts(api.Stmt{Kind: "do", Name: "i", Exprs: exprs(a, b)}, api.Stmt{Kind: "loop", Name: "i", Exprs: exprs(a, b)}, api.Stmt{Kind: "if", Exprs: exprs(a)}) {
		s := api.Stmt{Kind: "stop"}
		for n := range 25 {
			checkValid(t, body(s), n <= 20)
			checkValid(t, api.File{Units: []api.Unit{{Kind: "program", Name: "p", Contains: []api.Unit{{Kind: "subroutine", Name: "s", Body: stmts(s)}}}}}, n <= 20)
			checkValid(t, body(api.Stmt{Kind: "if", Exprs: exprs(a), Other: stmts(s)}), n <= 19)
			outer.Body = stmts(s)
			s = outer
		}
	}
}

func TestCount(t *testing.T) {
	for text, want := range map[string]int{
		"program p\nend": 2, "module m\nuse a\nuse b\nimplicit none\ninteger :: x, y\nend": 7, "program p\nif (a) stop\nend": 5, "program p\nif (a) then\nelse\nend if\nend": 4, "program p\nif (a) then\nelse\nstop\nend if\nend": 6, "program p\ndo 1 i = 1, 2\n1 continue\nend": 5, "program p\ndo concurrent (i = 1:2)\nend do\nend": 4, "subroutine s\ncontains\nsubroutine t\nend\nsubroutine u\nend\nend\nprogram p\nend": 9, "subroutine s\ncontains\nend": 2, "program p\nwhere (a) b = c; print *; call s; exit; cycle; continue; x = 1\nend": 9,
	} {
		if f := parsed(t, text); Count(f) != want || len(texts(t, f)) != want {
			t.Errorf("Count of %q is %d; want %d", text, Count(f), want)
		}
	}
	// how many they are is no reason to tell 0
	for _, n := range []int{197, 198, 199, 5000} {
		f := body(slices.Repeat(stmts(api.Stmt{Kind: "stop"}), n)...)
		if Count(f) != n+2 || Valid(f) != (n <= 198) {
			t.Errorf("%d statements: %d, %v", n+2, Count(f), Valid(f))
		}
		f.Units[0].Name = ""
		if Count(f) != 0 {
			t.Errorf("Count of a file that is none is %d", Count(f))
		}
	}
}

// A file comes of statements only if none of them needs more text than there may be.
func TestValidTexts(t *testing.T) {
	print := func(l ...api.Expr) api.Stmt { return api.Stmt{Kind: "print", Exprs: l} }
	text := func(n int, s string) api.Expr { return textExpr(strings.Repeat(s, n)) }
	bound := func(lo, hi api.Expr) api.Decl {
		return api.Decl{Kind: api.KReal4, Name: "x", Bounds: exprs(tripleExpr(lo, hi, missing))}
	}
	hundred := listExpr(slices.Repeat(exprs(listExpr(slices.Repeat(exprs(nameExpr("abcdefghijkl")), 6)...)), 100)...) // 100 times 79 bytes and a comma, which the last one has not, and 2 brackets
	for n, r := range []struct {
		file api.File
		size int // of its longest statement, as short as it can be
	}{
		{body(print(slices.Repeat(exprs(a), 3997)...)), 8000}, {body(print(slices.Repeat(exprs(a), 3998)...)), 8002},
		{body(print(text(7991, "x"))), 8000}, {body(print(text(7992, "x"))), 8001}, {body(print(text(7991, "'"))), 8000}, {body(print(text(7991, `"`))), 8000}, {body(print(text(1999, `"'`))), 6 + 3 + 3*1999}, {body(print(text(2665, `"'`))), 8004}, {body(print(text(2663, `"'`), a, a)), 8002}, {body(print(text(2663, `"'`), a)), 8000},
		{body(api.Stmt{Kind: "call", Name: "s", Exprs: slices.Repeat(exprs(a), 3996)}), 5 + 1 + 1 + 3996 + 3995 + 1}, {body(api.Stmt{Kind: "call", Name: "s", Exprs: slices.Repeat(exprs(a), 3997)}), 8001},
		{body(api.Stmt{Kind: "assign", Exprs: exprs(a, text(7996, "x"))}), 8000}, {body(api.Stmt{Kind: "assign", Exprs: exprs(a, text(7997, "x"))}), 8001},
		{body(api.Stmt{Kind: "where", Exprs: exprs(a, b, text(7988, "x"))}), 8000}, {body(api.Stmt{Kind: "where", Exprs: exprs(a, b, text(7989, "x"))}), 8001},
		{body(api.Stmt{Kind: "do", Name: "i", Exprs: exprs(a, text(7991, "x"))}), 8000}, {body(api.Stmt{Kind: "do", Name: "i", Exprs: exprs(a, text(7992, "x"))}), 8001},
		{body(api.Stmt{Kind: "loop", Name: "i", Exprs: exprs(a, text(7979, "x"))}), 8000}, {body(api.Stmt{Kind: "loop", Name: "i", Exprs: exprs(a, text(7980, "x"))}), 8001}, {body(api.Stmt{Kind: "loop", Name: "i", Exprs: exprs(a, text(7977, "x"), b)}), 8000},
		{body(api.Stmt{Kind: "if", Exprs: exprs(text(7990, "x"))}), 8000}, {body(api.Stmt{Kind: "if", Exprs: exprs(text(7991, "x"))}), 8001},
		{body(api.Stmt{Kind: "if", Exprs: exprs(a), Body: stmts(api.Stmt{Kind: "assign", Exprs: exprs(a, text(7996, "x"))})}), 8000}, {body(api.Stmt{Kind: "if", Exprs: exprs(a), Body: stmts(api.Stmt{Kind: "assign", Exprs: exprs(a, text(7997, "x"))})}), 8001},
		{body(api.Stmt{Kind: "if", Exprs: exprs(text(7991, "x")), Body: stmts(api.Stmt{Kind: "assign", Exprs: exprs(a, b)})}), 8000}, {body(api.Stmt{Kind: "if", Exprs: exprs(text(7991, "x")), Body: stmts(api.Stmt{Kind: "assign", Exprs: exprs(a, intExpr(10))})}), 8001}, {body(api.Stmt{Kind: "if", Exprs: exprs(text(7991, "x")), Body: stmts(api.Stmt{Kind: "assign", Exprs: exprs(a, b)}), Other: stmts(api.Stmt{Kind: "stop"})}), 8001}, {body(api.Stmt{Kind: "if", Exprs: exprs(text(7991, "x")), Body: stmts(api.Stmt{Kind: "stop"})}), 8001},
		{body(api.Stmt{Kind: "if", Exprs: exprs(opExpr(".not.", opExpr(".and.", a, text(7977, "x"))))}), 8000}, {body(api.Stmt{Kind: "if", Exprs: exprs(opExpr(".not.", opExpr(".and.", a, text(7978, "x"))))}), 8001},
		{declared(bound(intExpr(1), text(7989, "x"))), 8000}, {declared(bound(intExpr(1), text(7990, "x"))), 8001}, {declared(bound(text(7988, "x"), missing)), 8000}, {declared(bound(text(7989, "x"), missing)), 8001}, {declared(bound(text(7987, "x"), intExpr(1))), 8000}, {declared(bound(intExpr(2), text(7988, "x"))), 8001},
		{declared(api.Decl{Kind: api.KReal4, Name: "x", Parameter: true, Init: exprs(text(7980, "x"))}), 8000}, {declared(api.Decl{Kind: api.KReal4, Name: "x", Parameter: true, Init: exprs(text(7981, "x"))}), 8001}, {declared(api.Decl{Kind: api.KReal8, Name: "x", Init: exprs(text(7987, "x"))}), 8000}, {declared(api.Decl{Kind: api.KReal8, Name: "x", Init: exprs(text(7988, "x"))}), 8001}, {declared(api.Decl{Kind: api.KInt, Name: "x", Bounds: exprs(tripleExpr(intExpr(1), missing, missing)), Init: exprs(text(7984, "x"))}), 8000}, {declared(api.Decl{Kind: api.KLogical, Name: "x", Init: exprs(text(7988, "x"))}), 8001},
		{api.File{Units: []api.Unit{{Kind: "subroutine", Name: "s", Args: slices.Repeat([]string{"a"}, 3993)}}}, 7999}, {api.File{Units: []api.Unit{{Kind: "subroutine", Name: "s", Args: slices.Repeat([]string{"a"}, 3994)}}}, 8001},
		{api.File{Units: []api.Unit{{Kind: "module", Name: "m", Uses: []api.Use{{Module: "m", Only: true, Names: slices.Repeat([]api.Rename{{Local: "a", Name: "a"}}, 3995)}}}}}, 8000}, {api.File{Units: []api.Unit{{Kind: "module", Name: "m", Uses: []api.Use{{Module: "m", Only: true, Names: slices.Repeat([]api.Rename{{Local: "a", Name: "a"}}, 3996)}}}}}, 8002},
		{api.File{Units: []api.Unit{{Kind: "module", Name: "m", Uses: []api.Use{{Module: "m", Names: slices.Repeat([]api.Rename{{Local: "a", Name: "b"}}, 1599)}}}}}, 8000}, {api.File{Units: []api.Unit{{Kind: "module", Name: "m", Uses: []api.Use{{Module: "m", Names: slices.Repeat([]api.Rename{{Local: "a", Name: "b"}}, 1600)}}}}}, 8005},
		{body(api.Stmt{Kind: "assign", Exprs: exprs(a, hundred)}), 8003}, {body(api.Stmt{Kind: "assign", Exprs: exprs(a, listExpr(hundred.Kids[1:]...))}), 7923},
	} {
		longest := 0
		for _, s := range written(r.file, shortest) {
			longest = max(longest, len(s))
		}
		if longest != r.size {
			t.Errorf("file %d: its longest statement has %d bytes; want %d", n, longest, r.size)
		}
		if Valid(r.file) != (r.size <= api.MaxText) || (Count(r.file) > 0) != (r.size <= api.MaxText) {
			t.Errorf("file %d of %d bytes: Valid is %v", n, r.size, Valid(r.file))
		}
		checkShortest(t, r.file, r.size <= api.MaxText)
	}
}

// checkShortest holds that the shortest statements of a file have its tree, if they may be so long.
func checkShortest(t *testing.T, f api.File, want bool) {
	t.Helper()
	l := lines(written(f, shortest)...)
	back, at, err := Parse(l)
	if want && (err != api.OK || !equal(noLines(back), noLines(f))) || !want && err != api.ErrArg {
		t.Errorf("%.200q is not the file: %d, %d", l[min(1, len(l)-1)].Text, at, err)
	}
}

func TestSame(t *testing.T) {
	file := func() api.File {
		return parsed(t, "subroutine s(a, b)\nuse m, only: a => b\nuse n, a => b\nimplicit none\ninteger, parameter :: x(1:a) = 1\nx(1:2) = 'a' + 1.5\ndo i = 1, 2\nstop\nend do\nif (a) then\nexit\nelse\ncycle\nend if\ncall s(a)\ncontains\nsubroutine t\nprint *, .true.\nend\nend\nprogram p\nend")
	}
	if !Same(file(), file()) || !Same(api.File{}, api.File{Units: []api.Unit{}}) || Same(file(), api.File{}) {
		t.Error("a file is the same as itself")
	}
	s := func(f *api.File) *api.Unit { return &f.Units[0] }
	for n, change := range []func(f *api.File){
		func(f *api.File) { f.Units[0].At = 77 }, func(f *api.File) { s(f).Body[0].At = 77 }, func(f *api.File) { s(f).Body[1].Body[0].At++ }, func(f *api.File) { s(f).Body[2].Other[0].At = -1 }, func(f *api.File) { s(f).Contains[0].At = 0 }, func(f *api.File) { s(f).Contains[0].Body[0].At = 0 }, func(f *api.File) { s(f).Contains[0].Args = []string{} }, func(f *api.File) { s(f).Body[0].Body = []api.Stmt{} }, func(f *api.File) { s(f).Body[0].Exprs[0].Kids[0].Kids[0].Kids = []api.Expr{} },
	} {
		f := file()
		change(&f)
		if !Same(f, file()) || !Same(file(), f) {
			t.Errorf("change %d of lines alone, or of empty lists", n)
		}
	}
	for n, change := range []func(f *api.File){
		func(f *api.File) { f.Units = f.Units[:1] }, func(f *api.File) { f.Units[1].Kind = "module" }, func(f *api.File) { s(f).Name = "t" }, func(f *api.File) { s(f).Args[1] = "c" }, func(f *api.File) { s(f).Args = s(f).Args[:1] }, func(f *api.File) { s(f).None = false },
		func(f *api.File) { s(f).Uses = s(f).Uses[:1] }, func(f *api.File) { s(f).Uses[0].Module = "x" }, func(f *api.File) { s(f).Uses[0].Only = false }, func(f *api.File) { s(f).Uses[0].Names[0].Local = "x" }, func(f *api.File) { s(f).Uses[0].Names[0].Name = "x" }, func(f *api.File) { s(f).Uses[0].Names = nil },
		func(f *api.File) { s(f).Decls = nil }, func(f *api.File) { s(f).Decls[0].Kind = api.KReal8 }, func(f *api.File) { s(f).Decls[0].Name = "y" }, func(f *api.File) { s(f).Decls[0].Parameter = false }, func(f *api.File) { s(f).Decls[0].Bounds = nil }, func(f *api.File) { s(f).Decls[0].Bounds[0].Kids[0].N = 0 }, func(f *api.File) { s(f).Decls[0].Init = nil }, func(f *api.File) { s(f).Decls[0].Init[0].N = 2 },
		func(f *api.File) { s(f).Body = s(f).Body[:3] }, func(f *api.File) { s(f).Body[0].Kind = "where" }, func(f *api.File) { s(f).Body[1].Name = "j" }, func(f *api.File) { s(f).Body[1].Exprs[1].N = 3 }, func(f *api.File) { s(f).Body[1].Body = nil }, func(f *api.File) { s(f).Body[1].Body[0].Kind = "exit" }, func(f *api.File) { s(f).Body[2].Other = nil }, func(f *api.File) { s(f).Body[2].Other[0].Kind = "stop" }, func(f *api.File) { s(f).Body[3].Name = "t" }, func(f *api.File) { s(f).Body[3].Exprs = nil },
		func(f *api.File) { s(f).Contains = nil }, func(f *api.File) { s(f).Contains[0].Name = "u" }, func(f *api.File) { s(f).Contains[0].Body[0].Exprs[0].N = 0 },
	} {
		f := file()
		change(&f)
		if Same(f, file()) || Same(file(), f) || !Same(f, f) {
			t.Errorf("change %d is not seen", n)
		}
	}
}

func TestSameExpr(t *testing.T) {
	l := append(wrongExprs(), a, b, intExpr(1), textExpr("a"), itemExpr("a"), listExpr(a), listExpr(a, b), opExpr("+", a, b), opExpr("-", a, b), opExpr("-", a), itemExpr("a", a), itemExpr("a", b), itemExpr("a", tripleExpr(a, missing, b)), itemExpr("a", tripleExpr(a, b, missing)))
	for i, e := range l {
		for j, f := range l {
			if SameExpr(e, f) != (i == j) {
				t.Errorf("SameExpr(%+v, %+v) is %v", e, f, i != j)
			}
		}
		e.Kids = append(make([]api.Expr, 0, 5), e.Kids...)
		if !SameExpr(e, l[i]) || !SameExpr(l[i], e) {
			t.Errorf("%+v is not the same as its copy", e)
		}
	}
}
