package source

import (
	"math"
	"slices"
	"strings"
	"testing"

	"quadrat/api"
)

func TestValidTexts(t *testing.T) {
	everyText("x1 &;!'\"", 6, func(text string) {
		s := api.Line{Text: text, At: 1}
		if got := Valid([]api.Line{s}); got != isRight(s) {
			t.Fatalf("Valid of %q: %v", text, got)
		}
	})
	for b := range 256 {
		one := string([]byte{byte(b)})
		for _, text := range []string{one, "x" + one + "y", "'" + one + "'", "7" + one + "y"} {
			s := api.Line{Text: text}
			if got := Valid([]api.Line{s}); got != isRight(s) {
				t.Errorf("Valid of %q: %v", text, got)
			}
		}
	}
}

func TestValidLists(t *testing.T) {
	x := api.Line{Text: "x"}
	for _, label := range []int{0, 1, 10, 99999} {
		if !Valid([]api.Line{{Label: label, Text: "x"}}) {
			t.Errorf("the label %d is none", label)
		}
	}
	for _, label := range []int{math.MinInt, -1, 100000, math.MaxInt} {
		if Valid([]api.Line{x, {Label: label, Text: "x"}, x}) {
			t.Errorf("the label %d is one", label)
		}
	}
	for _, at := range []int{math.MinInt, -1, 0, 7, math.MaxInt} { // it is not looked at
		if !Valid([]api.Line{{Text: "x", At: at}, {Text: "x", At: 3}}) {
			t.Errorf("a statement at %d is none", at)
		}
	}
	if !Valid(nil) || !Valid([]api.Line{}) || !Valid(slices.Repeat([]api.Line{x}, api.MaxStmts)) || Valid(slices.Repeat([]api.Line{x}, api.MaxStmts+1)) {
		t.Error("the length of a list")
	}
	long := strings.Repeat("x", api.MaxText)
	if !Valid([]api.Line{{Text: long}, {Text: long}}) || Valid([]api.Line{{Text: long}, {Text: long + "x"}}) {
		t.Error("the length of a text")
	}
	if Valid([]api.Line{x, {}}) || Valid([]api.Line{{Text: "x;"}, x}) || Valid([]api.Line{x, {Label: 10}}) {
		t.Error("one that is none, among others")
	}
}

func TestComment(t *testing.T) {
	blank := []string{"", " ", "     ", strings.Repeat(" ", 200)}
	for _, r := range []struct {
		old  bool
		want bool
		text []string
	}{
		{true, true, blank},
		{false, true, blank},
		{true, true, []string{"C", "c", "*", "!", "c x", "C10", "* 'x", "! x", "call x", "! ", "*\t"}},
		{false, true, []string{"!", "! x", " !", "     ! 'x", "!!", "! &"}},
		{true, false, []string{"x", " c", " C x", " *", " !", "     !", "      ! x", "10", "     &", "      x ! y", "d", "B", "\t", " \t", "\n", ";", "#"}},
		{false, false, []string{"C", "c", "*", "c x", "  x", "x ! y", "& ! x", "&", ";", "10 !", "'!", "\t", "\t!", "\n", "#"}},
	} {
		for _, text := range r.text {
			if Comment(text, r.old) != r.want {
				t.Errorf("Comment of %q, old %v: %v", text, r.old, !r.want)
			}
		}
	}
	for b := range 256 {
		one := string([]byte{byte(b)})
		if Comment(one, true) != strings.Contains(" !*Cc", one) || Comment(one, false) != strings.Contains(" !", one) || Comment(" "+one, true) != (one == " ") || Comment(" "+one, false) != strings.Contains(" !", one) {
			t.Errorf("Comment of %q", one)
		}
	}
}

func TestQuotedByHand(t *testing.T) {
	for _, r := range []struct{ text, want string }{
		{"", "."},
		{"x", ".."},
		{"'", ".q"},
		{"''", ".q."},
		{"'''", ".q.q"},
		{"x'a'y", "..qq.."},
		{"'it''s'", ".qqq.qq."},
		{`'"'"'"`, ".qq.qq."},
		{`"a'b"c'd"`, ".qqqq..qqq"},
		{`x = "it's"`, ".....qqqqq."},
		{"'!'!;'&", ".qq...qq"},
		{"\xff'\x00'\n", "..qq.."},
	} {
		got := ""
		for at := range len(r.text) + 1 {
			got += map[bool]string{false: ".", true: "q"}[Quoted(r.text, at)]
		}
		if got != r.want {
			t.Errorf("Quoted of %q: %s instead of %s", r.text, got, r.want)
		}
		for _, at := range []int{math.MinInt, -1, len(r.text) + 1, len(r.text) + 2, math.MaxInt} {
			if Quoted(r.text, at) {
				t.Errorf("Quoted of %q at %d", r.text, at)
			}
		}
	}
}

// A byte is within quotes if those ahead of it are not all closed.
func TestQuoted(t *testing.T) {
	everyText("x'\"", 8, func(text string) {
		for at := range len(text) + 1 {
			if got := Quoted(text, at); got != isOpen(text[:at]) {
				t.Fatalf("Quoted of %q at %d: %v", text, at, got)
			}
		}
	})
}
