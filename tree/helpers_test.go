package tree

import (
	"reflect"
	"strings"
	"testing"

	"quadrat/api"
)

// Expressions, as the chapter has them.

var missing = api.Expr{Kind: "none"}

func nameExpr(s string) api.Expr { return api.Expr{Kind: "name", Text: s} }

func intExpr(n int) api.Expr { return api.Expr{Kind: "int", N: n} }

func realExpr(s string) api.Expr { return api.Expr{Kind: "real", Text: s} }

func logicalExpr(n int) api.Expr { return api.Expr{Kind: "logical", N: n} }

func textExpr(s string) api.Expr { return api.Expr{Kind: "text", Text: s} }

func opExpr(op string, kids ...api.Expr) api.Expr {
	return api.Expr{Kind: "op", Text: op, Kids: kids}
}

func itemExpr(name string, kids ...api.Expr) api.Expr {
	return api.Expr{Kind: "item", Text: name, Kids: kids}
}

func listExpr(kids ...api.Expr) api.Expr { return api.Expr{Kind: "list", Kids: kids} }

func tripleExpr(lo, hi, step api.Expr) api.Expr {
	return api.Expr{Kind: "triple", Kids: []api.Expr{lo, hi, step}}
}

func exprs(l ...api.Expr) []api.Expr { return l }

func stmts(l ...api.Stmt) []api.Stmt { return l }

// Names that many tests use.
var (
	a = nameExpr("a")
	b = nameExpr("b")
	c = nameExpr("c")
	i = nameExpr("i")
	x = nameExpr("x")
)

// equal holds any two values against each other without a function of the package; empty lists and nil ones are the same.
func equal(v, w any) bool {
	return sameValue(reflect.ValueOf(v), reflect.ValueOf(w))
}

func sameValue(v, w reflect.Value) bool {
	switch v.Kind() {
	case reflect.Struct:
		for i := range v.NumField() {
			if !sameValue(v.Field(i), w.Field(i)) {
				return false
			}
		}
		return true
	case reflect.Slice:
		if v.Len() != w.Len() {
			return false
		}
		for i := range v.Len() {
			if !sameValue(v.Index(i), w.Index(i)) {
				return false
			}
		}
		return true
	}
	return v.Interface() == w.Interface()
}

// lines are statements, one a line, as source.New gives them, where nothing is in need of it.
func lines(texts ...string) []api.Line {
	var l []api.Line
	for i, s := range texts {
		l = append(l, api.Line{Text: s, At: i + 1})
	}
	return l
}

// checkParse holds that statements have a tree, lines and all.
func checkParse(t *testing.T, l []api.Line, want api.File) {
	t.Helper()
	f, at, err := Parse(l)
	if !equal(f, want) || at != 0 || err != api.OK {
		t.Errorf("Parse(%v) = %+v, %d, %d; want %+v", l, f, at, err, want)
	}
}

// checkWrong holds that a text in the new form is wrong at a line, and that nothing else is told.
func checkWrong(t *testing.T, text string, at int, err api.Errno) {
	t.Helper()
	f, gotAt, got := ParseText(text, false)
	if !equal(f, api.File{}) || gotAt != at || got != err {
		t.Errorf("ParseText(%q) = %+v, %d, %d; want line %d, %d", text, f, gotAt, got, at, err)
	}
}

// parsed returns the tree of a text in the new form.
func parsed(t *testing.T, text string) api.File {
	t.Helper()
	f, at, err := ParseText(text, false)
	if at != 0 || err != api.OK {
		t.Fatalf("ParseText(%q): %d, %d", text, at, err)
	}
	return f
}

// texts returns what the statements of Print say.
func texts(t *testing.T, f api.File) []string {
	t.Helper()
	l, err := Print(f)
	if err != api.OK {
		t.Fatalf("Print(%+v): %d", f, err)
	}
	var out []string
	for i, s := range l {
		if s.Label != 0 || s.At != i+1 {
			t.Errorf("Print: %v is statement %d", s, i+1)
		}
		out = append(out, s.Text)
	}
	return out
}

// body returns a program of such statements.
func body(l ...api.Stmt) api.File {
	return api.File{Units: []api.Unit{{Kind: "program", Name: "p", Body: l}}}
}

// declared returns a module of such declarations.
func declared(l ...api.Decl) api.File {
	return api.File{Units: []api.Unit{{Kind: "module", Name: "m", Decls: l}}}
}

// deep returns the text of an expression of so many levels.
func deep(levels int) string {
	return strings.Repeat("-(", levels-1) + "a" + strings.Repeat(")", levels-1)
}

// within returns statements within so many blocks.
func within(blocks int, inner string) string {
	return strings.Repeat("do i = 1, 2\n", blocks) + inner + strings.Repeat("end do\n", blocks)
}
