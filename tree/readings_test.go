package tree

import (
	"slices"
	"strings"
	"testing"

	"quadrat/api"
)

// Where the chapter leaves room, these are the readings that the package keeps to.

// Behind contains there may be no subroutine; the tree does not keep the word then.
func TestReadingContains(t *testing.T) {
	f := parsed(t, "program p\ncontains\nend")
	if Count(f) != 2 || !Same(f, parsed(t, "program p\nend")) {
		t.Errorf("%+v", f)
	}
}

// The other statements that an if of one statement may have are not ifs.
func TestReadingIf(t *testing.T) {
	checkWrong(t, "program p\nif (a) if (b) stop\nend", 2, api.ErrForm)
}

// Such an if is a block as well, as Print writes it.
func TestReadingIfIsBlock(t *testing.T) {
	checkWrong(t, "program p\n"+within(20, "if (a) stop\n")+"end", 22, api.ErrLimit)
}

// A .not. ahead of another one needs no brackets, so it has none.
func TestReadingNot(t *testing.T) {
	if s, err := PrintExpr(opExpr(".not.", opExpr(".not.", a))); s != ".not. .not. a" || err != api.OK {
		t.Errorf("%q, %d", s, err)
	}
}

// The triple of a bound is none of an expression, and so no level.
func TestReadingBounds(t *testing.T) {
	parsed(t, "module m\nreal :: x("+deep(20)+":"+deep(20)+")\nend")
	checkWrong(t, "module m\nreal :: x("+deep(21)+":)\nend", 2, api.ErrLimit)
}

// What is missing in a triple is a level below it: it is one without Kids.
func TestReadingMissing(t *testing.T) {
	checkExprWrong(t, strings.Repeat("f(", 19)+":"+strings.Repeat(")", 19), api.ErrLimit)
}

// More Kids than a list or an item has are no limit that is passed: no list is so long.
func TestReadingKids(t *testing.T) {
	checkExprWrong(t, "["+strings.Repeat("1, ", 100)+"1]", api.ErrForm)
}

// The line of a limit comes ahead of the file's end, also where both are at the last statement.
func TestReadingEnd(t *testing.T) {
	checkWrong(t, "program p\nx = "+deep(21), 2, api.ErrLimit)
	checkWrong(t, "program p\n"+strings.Repeat("do i = 1, 2\n", 21), 22, api.ErrLimit)
}

// A do's label may be greater than all labels: then it is the continue that is missing.
func TestReadingLabel(t *testing.T) {
	checkWrong(t, "program p\ndo 9999999999 i = 1, 2\ncontinue\nend", 4, api.ErrForm)
}

// An only is one if a colon follows it; else it is a name.
func TestReadingOnly(t *testing.T) {
	f := parsed(t, "module m\nuse n, only => a\nend")
	if want := []api.Use{{Module: "n", Names: []api.Rename{{Local: "only", Name: "a"}}}}; !equal(f.Units[0].Uses, want) {
		t.Errorf("%+v", f)
	}
}

// A file comes of Parse if its statements have room in some text. Printed, they may be longer than texts may be; this is ErrLimit, because Parse could not read them back.
func TestReadingLongPrint(t *testing.T) {
	for n, want := range map[int]api.Errno{2664: api.OK, 2665: api.ErrLimit, 3997: api.ErrLimit, 3998: api.ErrArg} {
		f := body(api.Stmt{Kind: "print", Exprs: slices.Repeat(exprs(a), n)})
		l, err := Print(f)
		if err != want || (len(l) == 0) != (err != api.OK) || Valid(f) != (want != api.ErrArg) || want == api.OK && len(l[1].Text) != 7999 {
			t.Errorf("Print of %d items: %d", n, err)
		}
		if want == api.OK {
			want = api.ErrLimit // with the lines around it the text is too long
		}
		if s, err := PrintText(f); s != "" || err != want {
			t.Errorf("PrintText of %d items: %d", n, err)
		}
	}
}

// In the old form a filled text may be longer than texts may be; then it is no statement for Parse.
func TestReadingFilled(t *testing.T) {
	text := "      program p\n      x = 1\n" + strings.Repeat("     &\n", 130) + "     & + 1\n      end\n"
	if _, at, err := ParseText(text, true); at != 0 || err != api.ErrArg {
		t.Errorf("%d, %d", at, err)
	}
}
