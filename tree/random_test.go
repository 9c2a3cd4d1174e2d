package tree

import (
	"math/rand"
	"slices"
	"strings"
	"testing"

	"quadrat/api"
	"quadrat/source"
)

// maker makes trees at random, as the chapter has them.
type maker struct{ *rand.Rand }

func (m maker) one(words ...string) string { return words[m.Intn(len(words))] }

func (m maker) often(n int) bool { return m.Intn(n) > 0 }

func (m maker) name() string {
	return m.one("a", "b", "x", "i", "n2", "a_b", "abcdefghijkl", "end", "do", "if", "where", "only", "real", "then", "else", "concurrent", "call", "print", "none", "integer", "contains")
}

func (m maker) names(most int) (l []string) {
	for range m.Intn(most + 1) {
		l = append(l, m.name())
	}
	return l
}

func (m maker) expr(levels int) api.Expr {
	if levels > 1 && m.Intn(20) > 0 {
		switch m.Intn(7) {
		case 0, 1, 2:
			return opExpr(m.one("+", "-", "*", "/", "==", "/=", "<", "<=", ">", ">=", ".and.", ".or."), m.expr(levels-1), m.expr(levels-1))
		case 3:
			return opExpr(m.one("+", "-", ".not."), m.expr(levels-1))
		case 4:
			return listExpr(m.exprs(1, 3, levels-1)...)
		case 5:
			return itemExpr(m.name(), m.subscripts(levels-1)...)
		}
	}
	switch m.Intn(8) {
	case 0:
		return intExpr([]int{0, 1, 4, 10, 2147483647}[m.Intn(5)])
	case 1:
		return realExpr(m.one("1.", ".5", "1.5d0", "2e-10", "1.e+5", "10d1", "00.5"))
	case 2:
		return logicalExpr(m.Intn(2))
	case 3:
		return textExpr(m.one("", "a", "it's", `"`, "'\"'", "; ! &", "  a = (b, ", "A::b", "''"))
	}
	return nameExpr(m.name())
}

func (m maker) exprs(least, most, levels int) (l []api.Expr) {
	for range least + m.Intn(most-least+1) {
		l = append(l, m.expr(levels))
	}
	return l
}

func (m maker) subscripts(levels int) (l []api.Expr) {
	for range m.Intn(4) {
		if levels < 2 || m.Intn(2) == 0 {
			l = append(l, m.expr(levels))
			continue
		}
		t := tripleExpr(missing, missing, missing)
		for i := range t.Kids {
			if m.Intn(2) == 0 {
				t.Kids[i] = m.expr(levels - 1)
			}
		}
		l = append(l, t)
	}
	return l
}

func (m maker) target(levels int) api.Expr {
	if m.Intn(2) == 0 {
		return nameExpr(m.name())
	}
	return itemExpr(m.name(), m.subscripts(levels-1)...)
}

func (m maker) stmt(blocks int) api.Stmt {
	levels := 1 + m.Intn(5)
	if m.Intn(3) == 0 && blocks > 0 {
		switch m.Intn(3) {
		case 0:
			return api.Stmt{Kind: "do", Name: m.name(), Exprs: m.exprs(2, 3, levels), Body: m.block(blocks - 1)}
		case 1:
			return api.Stmt{Kind: "loop", Name: m.name(), Exprs: m.exprs(2, 3, levels), Body: m.block(blocks - 1)}
		}
		s := api.Stmt{Kind: "if", Exprs: m.exprs(1, 1, levels), Body: m.block(blocks - 1)}
		if m.Intn(2) == 0 {
			s.Other = m.block(blocks - 1)
		}
		return s
	}
	switch m.Intn(9) {
	case 0:
		return api.Stmt{Kind: m.one("stop", "exit", "cycle", "none")}
	case 1:
		return api.Stmt{Kind: "none"}
	case 2:
		return api.Stmt{Kind: "call", Name: m.name(), Exprs: m.exprs(0, 3, levels)}
	case 3:
		return api.Stmt{Kind: "print", Exprs: m.exprs(0, 3, levels)}
	case 4:
		return api.Stmt{Kind: "where", Exprs: exprs(m.expr(levels), m.target(levels), m.expr(levels))}
	}
	return api.Stmt{Kind: "assign", Exprs: exprs(m.target(levels), m.expr(levels))}
}

func (m maker) block(blocks int) (l []api.Stmt) {
	for range m.Intn(4) {
		l = append(l, m.stmt(blocks))
	}
	return l
}

func (m maker) decl() api.Decl {
	d := api.Decl{Kind: 1 + m.Intn(4), Name: m.name(), Parameter: m.Intn(3) == 0, Init: m.exprs(0, 1, 3)}
	for range m.Intn(4) {
		b := tripleExpr(m.expr(3), m.expr(3), missing)
		if m.Intn(2) == 0 {
			b.Kids[0] = intExpr(1)
		}
		if m.Intn(3) == 0 {
			b.Kids[1] = missing
		}
		d.Bounds = append(d.Bounds, b)
	}
	return d
}

func (m maker) use() api.Use {
	u := api.Use{Module: m.name(), Only: m.Intn(2) == 0}
	for len(u.Names) == 0 && u.Only || m.Intn(2) == 0 {
		r := api.Rename{Local: m.name(), Name: m.name()}
		if m.Intn(3) == 0 {
			r.Name = r.Local
		}
		u.Names = append(u.Names, r)
	}
	return u
}

func (m maker) unit(kind string, contained bool) api.Unit {
	u := api.Unit{Kind: kind, Name: m.name(), None: m.Intn(2) == 0}
	if kind == "subroutine" {
		u.Args = m.names(3)
	}
	for range m.Intn(3) {
		u.Uses = append(u.Uses, m.use())
	}
	for range m.Intn(4) {
		u.Decls = append(u.Decls, m.decl())
	}
	if kind != "module" {
		u.Body = append(m.block(4), m.block(3)...)
	}
	for range m.Intn(3) {
		if !contained {
			u.Contains = append(u.Contains, m.unit("subroutine", true))
		}
	}
	return u
}

func (m maker) file() (f api.File) {
	for range 1 + m.Intn(3) {
		f.Units = append(f.Units, m.unit(m.one("module", "program", "subroutine"), false))
	}
	return f
}

// layer writes trees in one of the ways in which they can be written, without the package.
type layer struct {
	maker
	lines []api.Line
}

// add adds a statement of words, with a label or none.
func (y *layer) add(label int, words ...string) {
	if label == 0 && y.Intn(6) == 0 {
		label = 1 + y.Intn(99999)
	}
	text := strings.TrimSpace(y.join(words))
	y.lines = append(y.lines, api.Line{Label: label, Text: text, At: len(y.lines)*2 + 1})
}

// join puts words side by side, with blanks where they are needed, and some more.
func (y *layer) join(words []string) string {
	out := ""
	for _, w := range words {
		if w == "" {
			continue
		}
		if y.Intn(8) == 0 && w[0] != '\'' && w[0] != '"' {
			w = strings.ToUpper(w)
		}
		if y.Intn(3) == 0 || out != "" && inWord(out[len(out)-1]) && inWord(w[0]) {
			out += strings.Repeat(" ", 1+y.Intn(2))
		}
		out += w
	}
	return out
}

func inWord(b byte) bool {
	return b >= 'a' && b <= 'z' || b >= 'A' && b <= 'Z' || b >= '0' && b <= '9' || b == '_'
}

// separated returns words with commas between.
func separated(l [][]string) (out []string) {
	for i, w := range l {
		if i > 0 {
			out = append(out, ",")
		}
		out = append(out, w...)
	}
	return out
}

func (y *layer) all(l []api.Expr) []string {
	var out [][]string
	for _, e := range l {
		out = append(out, y.expr(e))
	}
	return separated(out)
}

// bindings: which operators stand in brackets is told by what the chapter says of two of them.
var bindings = map[string]int{".or.": 1, ".and.": 2, ".not.": 3, "==": 4, "/=": 4, "<": 4, "<=": 4, ">": 4, ">=": 4, "+": 5, "-": 5, "*": 6, "/": 6}

func (y *layer) operand(e api.Expr, least int) []string {
	w := y.expr(e)
	if e.Kind == "op" && bindings[e.Text] < least {
		w = slices.Concat([]string{"("}, w, []string{")"})
	}
	return w
}

func (y *layer) expr(e api.Expr) []string {
	if e.Kind != "triple" && e.Kind != "none" && y.Intn(12) == 0 {
		return slices.Concat([]string{"("}, y.plain(e), []string{")"})
	}
	return y.plain(e)
}

// plain returns an expression's words without brackets around all of it.
func (y *layer) plain(e api.Expr) []string {
	level := bindings[e.Text]
	switch {
	case e.Kind == "int":
		if e.N > 99 {
			return []string{digits(e.N)}
		}
		return []string{y.one("", "", "0", "00000000") + digits(e.N)}
	case e.Kind == "logical":
		return []string{[]string{".false.", ".true."}[e.N]}
	case e.Kind == "text":
		q := y.one("'", `"`)
		return []string{q + strings.ReplaceAll(e.Text, q, q+q) + q}
	case e.Kind == "item":
		return slices.Concat([]string{e.Text, "("}, y.all(e.Kids), []string{")"})
	case e.Kind == "list":
		return slices.Concat([]string{"["}, y.all(e.Kids), []string{"]"})
	case e.Kind == "triple" && e.Kids[2].Kind == "none":
		return slices.Concat(y.expr(e.Kids[0]), []string{":"}, y.expr(e.Kids[1]))
	case e.Kind == "triple":
		return slices.Concat(y.expr(e.Kids[0]), []string{":"}, y.expr(e.Kids[1]), []string{":"}, y.expr(e.Kids[2]))
	case e.Kind == "op" && len(e.Kids) == 1 && level == 3:
		return slices.Concat([]string{e.Text}, y.operand(e.Kids[0], 3))
	case e.Kind == "op" && len(e.Kids) == 1:
		return slices.Concat([]string{e.Text}, y.operand(e.Kids[0], 6))
	case e.Kind == "op" && level == 4:
		return slices.Concat(y.operand(e.Kids[0], 5), []string{e.Text}, y.operand(e.Kids[1], 5))
	case e.Kind == "op":
		return slices.Concat(y.operand(e.Kids[0], level), []string{e.Text}, y.operand(e.Kids[1], level+1))
	}
	return []string{e.Text}
}

func digits(n int) string {
	s := ""
	for ; n > 9; n /= 10 {
		s = string(rune('0'+n%10)) + s
	}
	return string(rune('0'+n)) + s
}

func (y *layer) simple(s api.Stmt) []string {
	switch s.Kind {
	case "assign":
		return slices.Concat(y.plain(s.Exprs[0]), []string{"="}, y.expr(s.Exprs[1]))
	case "where":
		return slices.Concat([]string{"where", "("}, y.expr(s.Exprs[0]), []string{")"}, y.plain(s.Exprs[1]), []string{"="}, y.expr(s.Exprs[2]))
	case "call":
		if len(s.Exprs) == 0 && y.Intn(2) == 0 {
			return []string{"call", s.Name}
		}
		return slices.Concat([]string{"call", s.Name, "("}, y.all(s.Exprs), []string{")"})
	case "print":
		w := []string{"print", "*"}
		for _, e := range s.Exprs {
			w = slices.Concat(w, []string{","}, y.expr(e))
		}
		return w
	case "none":
		return []string{"continue"}
	}
	return []string{s.Kind}
}

func isSimple(s api.Stmt) bool {
	return s.Kind != "do" && s.Kind != "loop" && s.Kind != "if"
}

func (y *layer) block(l []api.Stmt) {
	for _, s := range l {
		y.stmt(s)
	}
}

func (y *layer) stmt(s api.Stmt) {
	n := len(s.Body)
	switch {
	case s.Kind == "do" && n > 0 && s.Body[n-1].Kind == "none" && y.often(2):
		// a label that no other statement within it has by chance
		label := 90000 + len(y.lines)
		y.add(0, slices.Concat([]string{"do", digits(label), s.Name, "="}, y.all(s.Exprs))...)
		at := len(y.lines)
		y.block(s.Body[:n-1])
		for i := range y.lines[at:] {
			if y.lines[at+i].Label == label {
				y.lines[at+i].Label = 0
			}
		}
		y.add(label, "continue")
	case s.Kind == "do":
		y.add(0, slices.Concat([]string{"do", s.Name, "="}, y.all(s.Exprs))...)
		y.block(s.Body)
		y.add(0, "end", "do")
	case s.Kind == "loop":
		w := slices.Concat([]string{"do", "concurrent", "(", s.Name, "="}, y.expr(s.Exprs[0]), []string{":"}, y.all(s.Exprs[1:]), []string{")"})
		y.add(0, w...)
		y.block(s.Body)
		y.add(0, "end", "do")
	case s.Kind == "if" && n == 1 && len(s.Other) == 0 && isSimple(s.Body[0]) && y.often(3):
		y.add(0, slices.Concat([]string{"if", "("}, y.expr(s.Exprs[0]), []string{")"}, y.simple(s.Body[0]))...)
	case s.Kind == "if":
		y.add(0, slices.Concat([]string{"if", "("}, y.expr(s.Exprs[0]), []string{")", "then"})...)
		y.block(s.Body)
		if len(s.Other) > 0 || y.Intn(4) == 0 {
			y.add(0, "else")
			y.block(s.Other)
		}
		y.add(0, "end", "if")
	default:
		y.add(0, y.simple(s)...)
	}
}

func (y *layer) entity(d api.Decl) []string {
	w := []string{d.Name}
	var bounds [][]string
	for _, b := range d.Bounds {
		one := b.Kids[0].Kind == "int" && b.Kids[0].N == 1 && y.Intn(2) == 0
		switch {
		case one && b.Kids[1].Kind == "none":
			bounds = append(bounds, []string{":"})
		case one:
			bounds = append(bounds, y.expr(b.Kids[1]))
		default:
			bounds = append(bounds, y.plain(b))
		}
	}
	if len(bounds) > 0 {
		w = slices.Concat(w, []string{"("}, separated(bounds), []string{")"})
	}
	for _, e := range d.Init {
		w = slices.Concat(w, []string{"="}, y.expr(e))
	}
	return w
}

// decls writes declarations, those of one kind in one statement or in several.
func (y *layer) decls(l []api.Decl) {
	types := [][]string{{}, {"integer"}, {"logical"}, {"real"}, {"real", "(", "8", ")"}}
	for i := 0; i < len(l); {
		w := types[l[i].Kind]
		if l[i].Kind == api.KReal4 && y.Intn(2) == 0 {
			w = []string{"real", "(", "4", ")"}
		}
		if l[i].Parameter {
			w = slices.Concat(w, []string{",", "parameter"})
		}
		entities := [][]string{y.entity(l[i])}
		for i++; i < len(l) && l[i].Kind == l[i-1].Kind && l[i].Parameter == l[i-1].Parameter && y.often(3); i++ {
			entities = append(entities, y.entity(l[i]))
		}
		y.add(0, slices.Concat(w, []string{"::"}, separated(entities))...)
	}
}

func (y *layer) use(u api.Use) {
	w := []string{"use", u.Module}
	if len(u.Names) > 0 {
		w = append(w, ",")
	}
	if u.Only {
		w = append(w, "only", ":")
	}
	var names [][]string
	for _, r := range u.Names {
		if u.Only && r.Local == r.Name && y.Intn(2) == 0 {
			names = append(names, []string{r.Local})
			continue
		}
		names = append(names, []string{r.Local, "=>", r.Name})
	}
	y.add(0, slices.Concat(w, separated(names))...)
}

func (y *layer) unit(u api.Unit) {
	w := []string{u.Kind, u.Name}
	if len(u.Args) > 0 || u.Kind == "subroutine" && y.Intn(2) == 0 {
		var args [][]string
		for _, a := range u.Args {
			args = append(args, []string{a})
		}
		w = slices.Concat(w, []string{"("}, separated(args), []string{")"})
	}
	y.add(0, w...)
	for _, x := range u.Uses {
		y.use(x)
	}
	if u.None {
		y.add(0, "implicit", "none")
	}
	y.decls(u.Decls)
	y.block(u.Body)
	if len(u.Contains) > 0 || u.Kind == "module" && y.Intn(4) == 0 {
		y.add(0, "contains")
	}
	for _, x := range u.Contains {
		y.unit(x)
	}
	y.add(0, []string{"end", u.Kind, u.Name}[:1+y.Intn(3)]...)
}

// laid returns statements of a file, in one of the ways in which it can be written.
func (m maker) laid(f api.File) []api.Line {
	y := &layer{maker: m}
	for _, u := range f.Units {
		y.unit(u)
	}
	return y.lines
}

// Trees at random, written at random, are parsed; what Print writes of them is parsed again, in both forms.
func TestRandomFiles(t *testing.T) {
	m := maker{rand.New(rand.NewSource(5))}
	forms := 0
	for range 1000 {
		f := m.file()
		l := m.laid(f)
		n := Count(f)
		switch {
		case n == 0:
			t.Fatalf("%+v has no statements", f)
		case len(l) > api.MaxStmts:
			continue
		case n > api.MaxStmts:
			if g, at, err := Parse(l); at != 0 || err != api.ErrLimit || !equal(g, api.File{}) || Valid(f) {
				t.Fatalf("%d statements: %d, %d", n, at, err)
			}
			continue
		}
		g, at, err := Parse(l)
		if err != api.OK || !Same(f, g) || !equal(noLines(g), f) || !Valid(f) || !Valid(g) {
			t.Fatalf("%v\n\n%+v\n\n%+v: %d, %d, %v, %v", l, f, g, at, err, Valid(f), Valid(g))
		}
		checkAt(t, l, g)
		checkBack(t, f)
		forms += checkForms(t, l, f)
	}
	if forms < 1000 {
		t.Errorf("only %d texts", forms)
	}
}

// checkAt holds that each line of a tree is that of a statement, and that they ascend.
func checkAt(t *testing.T, l []api.Line, f api.File) {
	t.Helper()
	last := 0
	see := func(at int, again bool) {
		if at < last || at == last && !again || at%2 != 1 || at > l[len(l)-1].At {
			t.Fatalf("line %d behind %d of %v", at, last, l)
		}
		last = at
	}
	var block func(b []api.Stmt, again bool)
	block = func(b []api.Stmt, again bool) {
		for _, s := range b {
			see(s.At, again)
			block(s.Body, s.Kind == "if")
			block(s.Other, false)
		}
	}
	var unit func(u api.Unit)
	unit = func(u api.Unit) {
		see(u.At, false)
		block(u.Body, false)
		for _, x := range u.Contains {
			unit(x)
		}
	}
	for _, u := range f.Units {
		unit(u)
	}
}

// checkBack holds P5.3: Parse of Print is the file.
func checkBack(t *testing.T, f api.File) {
	t.Helper()
	l, err := Print(f)
	g, at, bad := Parse(l)
	if err != api.OK || bad != api.OK || at != 0 || !Same(f, g) || !equal(noLines(g), f) || len(l) != Count(f) {
		t.Fatalf("%v\n\n%+v\n\n%+v: %d, %d, %d", l, f, g, err, at, bad)
	}
	again, err := Print(g)
	if err != api.OK || !slices.Equal(again, l) {
		t.Fatalf("%v is printed again as %v, %d", l, again, err)
	}
	checkShortest(t, f, true)
	text, err := PrintText(f)
	want, bad := source.WriteNew(l)
	if text != want || err != bad {
		t.Fatalf("PrintText of %v: %q, %d; want %q, %d", l, text, err, want, bad)
	}
	if err == api.OK && !Same(parsed(t, text), f) {
		t.Fatalf("%q is not the file", text)
	}
}

// checkForms holds P5.3: both forms have the same tree; it returns how many texts it has seen.
func checkForms(t *testing.T, l []api.Line, f api.File) (seen int) {
	t.Helper()
	for old, write := range map[bool]func([]api.Line) (string, api.Errno){false: source.WriteNew, true: source.WriteOld} {
		text, err := write(l)
		if err != api.OK {
			continue
		}
		g, at, err := ParseText(text, old)
		if err != api.OK || at != 0 || !Same(f, g) {
			t.Fatalf("%q: %d, %d", text, at, err)
		}
		seen++
	}
	return seen
}

func TestRandomExpressions(t *testing.T) {
	m := maker{rand.New(rand.NewSource(6))}
	for range 20000 {
		e := m.expr(1 + m.Intn(7))
		y := &layer{maker: m}
		text := y.join(y.expr(e))
		got, err := ParseExpr(text)
		if err != api.OK || !equal(got, e) || !SameExpr(got, e) {
			t.Fatalf("ParseExpr(%q) = %+v, %d; want %+v", text, got, err, e)
		}
		printed, err := PrintExpr(e)
		back, bad := ParseExpr(printed)
		if err != api.OK || bad != api.OK || !equal(back, e) {
			t.Fatalf("PrintExpr(%+v) = %q, %d", e, printed, err)
		}
	}
}

// One token more, less, or another one: whatever is read then is a file.
func TestRandomChanges(t *testing.T) {
	m := maker{rand.New(rand.NewSource(7))}
	right := 0
	for range 4000 {
		l := m.laid(m.file())
		if len(l) > api.MaxStmts {
			continue
		}
		at := m.Intn(len(l))
		text := l[at].Text
		from := m.Intn(len(text))
		to := min(len(text), from+m.Intn(3))
		switch m.Intn(5) {
		case 0:
			l = slices.Delete(l, at, at+1)
		case 1:
			l = slices.Insert(l, at, l[m.Intn(len(l))])
		default:
			l[at].Text = text[:from] + m.one("", "", " ", "(", ")", ",", ":", "=", "+", "a", "end", "[", "]", "1", "::", "=>", ".not.", "'") + text[to:]
		}
		if !source.Valid(l) {
			continue
		}
		f, line, err := Parse(l)
		switch {
		case err == api.OK:
			right++
			if !Valid(f) || line != 0 {
				t.Fatalf("%v: %d", l, line)
			}
			checkBack(t, noLines(f))
		case err != api.ErrForm && err != api.ErrLimit || !equal(f, api.File{}) || line != 0 && !slices.ContainsFunc(l, func(x api.Line) bool { return x.At == line }):
			t.Fatalf("%v: %d, %d", l, line, err)
		}
	}
	if right < 400 {
		t.Errorf("only %d files are right", right)
	}
}
