package source

import (
	"math/rand"
	"regexp"
	"strconv"
	"strings"
	"testing"

	"quadrat/api"
)

func TestNewByHand(t *testing.T) {
	full := strings.Repeat("x", api.MaxLine)
	for _, r := range []struct {
		text string
		want []api.Line
	}{
		{"", nil},
		{"\n", nil},
		{"! x\n\n   \n  !;'&", nil},
		{strings.Repeat(" ", api.MaxLine) + "\n!" + full[1:], nil},
		{"x", []api.Line{{Text: "x", At: 1}}},
		{"x\n", []api.Line{{Text: "x", At: 1}}},
		{"x\n\n", []api.Line{{Text: "x", At: 1}}},
		{"\n\n  x = 1  \n! y\nz!", []api.Line{{Text: "x = 1", At: 3}, {Text: "z", At: 5}}},
		{"c\n*\nC x", []api.Line{{Text: "c", At: 1}, {Text: "*", At: 2}, {Text: "C x", At: 3}}},
		{full, []api.Line{{Text: full, At: 1}}},
		{full[:api.MaxLine-1] + "&\n" + full, []api.Line{{Text: full[:api.MaxLine-1] + " " + full, At: 1}}},
		// labels
		{"1 x", []api.Line{{Label: 1, Text: "x", At: 1}}},
		{"   99999     x y ", []api.Line{{Label: 99999, Text: "x y", At: 1}}},
		{"007 x", []api.Line{{Label: 7, Text: "x", At: 1}}},
		{"10", []api.Line{{Text: "10", At: 1}}},
		{"7 10", []api.Line{{Label: 7, Text: "10", At: 1}}},
		{"1x y", []api.Line{{Text: "1x y", At: 1}}},
		{"1'a' b", []api.Line{{Text: "1'a' b", At: 1}}},
		{"x;1 y;;2 z", []api.Line{{Text: "x", At: 1}, {Label: 1, Text: "y", At: 1}, {Label: 2, Text: "z", At: 1}}},
		{"12&\n&3 x", []api.Line{{Label: 123, Text: "x", At: 1}}},
		{"12&\nx 3", []api.Line{{Label: 12, Text: "x 3", At: 1}}},
		{"12 &\n\n x", []api.Line{{Label: 12, Text: "x", At: 1}}},
		// statements in one line
		{";", nil},
		{" ; ;; ! ;", nil},
		{"a;b", []api.Line{{Text: "a", At: 1}, {Text: "b", At: 1}}},
		{"\n;a = 1 ; ; b;\nc", []api.Line{{Text: "a = 1", At: 2}, {Text: "b", At: 2}, {Text: "c", At: 3}}},
		{"a; b & ! c\n  , c; d &\n& ; e;f", []api.Line{{Text: "a", At: 1}, {Text: "b  , c", At: 1}, {Text: "d", At: 2}, {Text: "e", At: 3}, {Text: "f", At: 3}}},
		// what goes on
		{"x &\ny", []api.Line{{Text: "x  y", At: 1}}},
		{"x&\ny", []api.Line{{Text: "x y", At: 1}}},
		{"x&   \n    y", []api.Line{{Text: "x y", At: 1}}},
		{"x  &! y\n   y", []api.Line{{Text: "x   y", At: 1}}},
		{"x  &\n   &  y", []api.Line{{Text: "x    y", At: 1}}},
		{"x&\n&y", []api.Line{{Text: "xy", At: 1}}},
		{"x&&\n&&y", []api.Line{{Text: "x&&y", At: 1}}},
		{"x & y", []api.Line{{Text: "x & y", At: 1}}},
		{"& x", []api.Line{{Text: "& x", At: 1}}},
		{"x\n& y", []api.Line{{Text: "x", At: 1}, {Text: "& y", At: 2}}},
		{"x &\n\n! z &\n   \n  !\n y &\n\n & z\n!&\nw", []api.Line{{Text: "x  y  z", At: 1}, {Text: "w", At: 10}}},
		{"x ! &\ny", []api.Line{{Text: "x", At: 1}, {Text: "y", At: 2}}},
		{"x &\ny ! &\nz", []api.Line{{Text: "x  y", At: 1}, {Text: "z", At: 3}}},
		// quotes
		{"x = '!' ! '", []api.Line{{Text: "x = '!'", At: 1}}},
		{`x = "'!;" // 'a";';y!'`, []api.Line{{Text: `x = "'!;" // 'a";'`, At: 1}, {Text: "y", At: 1}}},
		{"x = 'it''s; !'; y", []api.Line{{Text: "x = 'it''s; !'", At: 1}, {Text: "y", At: 1}}},
		{"x = '&'\ny = '&' // &\n 'a&' ", []api.Line{{Text: "x = '&'", At: 1}, {Text: "y = '&' //  'a&'", At: 2}}},
		{"x = 'a&\n&b'", []api.Line{{Text: "x = 'ab'", At: 1}}},
		{"x = 'a  &  \n   &  b'", []api.Line{{Text: "x = 'a    b'", At: 1}}},
		{"x = 'a ! &\n&!;&\n  &! b' ! c", []api.Line{{Text: "x = 'a ! !;! b'", At: 1}}},
		{"x = 'a&&\n&&b'", []api.Line{{Text: "x = 'a&&b'", At: 1}}},
		{"x = 'a'&\n&'b'", []api.Line{{Text: "x = 'a''b'", At: 1}}},
		{"x = 'a'&\n! c\n&'b'; y", []api.Line{{Text: "x = 'a''b'", At: 1}, {Text: "y", At: 3}}},
		{"x = \"a'&\n&'b\"&\n 'c'", []api.Line{{Text: "x = \"a''b\" 'c'", At: 1}}},
		{"x = 'a&\n&b' &\n\n!'\n'c&\n & d'\ny", []api.Line{{Text: "x = 'ab'  'c d'", At: 1}, {Text: "y", At: 7}}},
	} {
		checkLines(t, "New", New, r.text, r.want)
	}
}

func TestNewErrors(t *testing.T) {
	long := strings.Repeat("x", api.MaxLine+1)
	for _, r := range []struct {
		text string
		at   int
	}{
		// bytes, also in comments
		{"\t", 1}, {"x\x1f", 1}, {"x\x7f", 1}, {"x = '\x00'", 1}, {"! x\ny ! \xc3\xa4\n", 2}, {"x\r\n", 1}, {"x &\ny\t\nz", 2}, {"x &\n! \xff\ny", 2}, {"x\n\n\n\x01", 4},
		// lines that are too long
		{long, 1}, {"! " + long, 1}, {strings.Repeat(" ", api.MaxLine+1), 1}, {"x &\n" + long + "\n", 2}, {"x" + strings.Repeat(" ", api.MaxLine), 1}, {"x\n\n" + long[:api.MaxLine] + "!", 3},
		// labels
		{"0 x", 1}, {"00 x", 1}, {"100000 x", 1}, {"99999999999999999999 x", 1}, {"x; 0 y", 1}, {"x\n  123456   y", 2}, {"x &\n; 100000 y", 2}, {"0&\n&0 x", 1},
		// quotes that are not closed
		{"'", 1}, {"x = 'a", 1}, {`x = 'a"`, 1}, {"x = 'a''", 1}, {"x\ny = 'a\nb'", 2}, {"x; y = \"a'", 1}, {"x = 'a;b\ny", 1}, {"x = 'a&\n&b\ny", 1}, {"x &\n; y = '\nz", 2},
		// texts that no statement has
		{"x &&\n;", 1}, {"x\ny &&\n\n;z", 2}, {"1 2 x", 1}, {"1 20 30", 1}, {"x; 1 2 y", 1}, {"x&&\n!\n  &  ", 1}, {"x\n1 &\n2 y", 2},
		// nothing to go on in
		{"&", 1}, {"x &", 1}, {"x &\n", 1}, {"x &\n\n! y\n", 1}, {"x\ny; z & ! a\n", 2}, {"x &\ny &\n\n", 2}, {"x = 'a'&", 1}, {"x = 'a&", 1}, {"x = 'a&\n", 1}, {"x = 'a&\n&b&", 1},
		// what must begin with an &
		{"x = 'a&\nb'", 2}, {"x = 'a&\n  b'\ny", 2}, {"y\nx = 'a&\n&b&\n'", 4}, {"x = 'a&\n\n&b'", 2}, {"x = 'a&\n! c\n&b'", 2}, {"x = 'a&\n   \n&b'", 2}, {"x = \"a&\n&'&\n\"", 3},
		// the least line
		{"x = 'a\ny\t", 1}, {"x = 'a&\n&\t", 1}, {"1 2 x &\n" + long, 1}, {"x\ny\x01\n0 z", 2}, {"x &\n0 y\n0 z &\n1", 3}, {"x &\ny\t\n'", 2}, {"x; 'a&\n&b&\n&c\n\t", 1},
	} {
		checkError(t, "New", New, r.text, r.at, api.ErrForm)
	}
}

func TestNewLimits(t *testing.T) {
	many := strings.Repeat("x;y\n", api.MaxStmts/2)
	if l, at, err := New(many); len(l) != api.MaxStmts || at != 0 || err != api.OK {
		t.Errorf("as many statements as there may be: %d, %d, %d", len(l), at, err)
	}
	if l, _, err := New(many + ";; !\n! x\n\n"); len(l) != api.MaxStmts || err != api.OK {
		t.Errorf("as many statements, and more lines: %d, %d", len(l), err)
	}
	checkError(t, "New", New, many+"x", 0, api.ErrLimit)
	checkError(t, "New", New, "x;;\n"+many, 0, api.ErrLimit)
	checkError(t, "New", New, many+"x\n0 y", api.MaxStmts/2+2, api.ErrForm)
	checkError(t, "New", New, many+"x &", api.MaxStmts/2+1, api.ErrForm)

	long := strings.Repeat("! 45678\n", api.MaxText/8)
	checkLines(t, "New", New, long[:api.MaxText-8]+"1234 x\n\n", []api.Line{{Label: 1234, Text: "x", At: api.MaxText / 8}})
	checkError(t, "New", New, long[:api.MaxText-1]+"\x01", api.MaxText/8, api.ErrForm)
	checkError(t, "New", New, long+"\n", 0, api.ErrLimit)
	checkError(t, "New", New, long+"\x01", 0, api.ErrLimit)
	checkError(t, "New", New, strings.Repeat("'", api.MaxText+1), 0, api.ErrLimit)
	checkError(t, "New", New, strings.Repeat("&\n", 1<<20), 0, api.ErrLimit)
}

// newComment is a line that the new form passes over.
func newComment(r *rand.Rand) string {
	return pick(r, "", "   ", "!", "! x", "  !'&", " ! ;")
}

// layer lays statements into lines of the new form.
type layer struct {
	lines []string
	line  string
}

func (l *layer) end() {
	l.lines = append(l.lines, l.line)
	l.line = ""
}

// comments adds lines that are passed over.
func (l *layer) comments(r *rand.Rand) {
	for r.Intn(3) == 0 {
		l.lines = append(l.lines, newComment(r))
	}
}

// add lays a statement behind what the last line has, and returns the text that this means.
func (l *layer) add(r *rand.Rand, text string) (meant string) {
	for i := range len(text) {
		open := isOpen(text[:i])
		if i > 0 && (r.Intn(12) == 0 || len(l.line) > 110) {
			meant += l.cut(r, open, text[i:])
		}
		l.line += text[i : i+1]
		meant += text[i : i+1]
	}
	return meant
}

// cut ends a line within a statement, and returns the blank that this means, if it does.
func (l *layer) cut(r *rand.Rand, open bool, rest string) string {
	l.line += "&" + blanks(r, 3)
	if !open {
		l.line += pick(r, "", "", "!", "! x", "!'", "!&")
	}
	l.end()
	if !open {
		l.comments(r)
	}
	l.line = blanks(r, 3)
	// without an & at its front a line must have something else there
	if !open && r.Intn(2) == 0 && rest[0] != ' ' && rest[0] != '&' && rest[0] != '!' {
		return " "
	}
	l.line += "&"
	return ""
}

var labelled = regexp.MustCompile(`^([0-9]+) +(.*)$`)

// meaning is the statement of a text with its label.
func meaning(text string, at int) (s api.Line, ok bool) {
	s = api.Line{Text: text, At: at}
	if m := labelled.FindStringSubmatch(text); m != nil {
		s.Label, _ = strconv.Atoi(m[1])
		s.Text = m[2]
		return s, s.Label > 0 && isRight(s)
	}
	return s, isRight(s)
}

// layAll lays statements, and tells what they mean, and the first line at which one means nothing (a blank between two lines may end the digits at a text's front).
func layAll(r *rand.Rand, count int) (lines []string, want []api.Line, least int) {
	var l layer
	for range count {
		if l.line == "" {
			l.comments(r)
		}
		l.line += blanks(r, 3)
		at := len(l.lines) + 1
		text := someText(r, 30)
		if label := someLabel(r); label > 0 {
			text = digitsOf(r, label) + " " + blanks(r, 3) + text
		}
		s, ok := meaning(l.add(r, text), at)
		if !ok && least == 0 {
			least = at
		}
		want = append(want, s)
		if r.Intn(2) == 0 && len(l.line) < 100 {
			l.line += blanks(r, 2) + pick(r, ";", ";;", "; ;", " ;  ")
			continue
		}
		l.line += pick(r, "", "  ", "!", " ! x", "!'", "! &")
		l.end()
	}
	l.end()
	return l.lines, want, least
}

func TestNewLaid(t *testing.T) {
	r := rand.New(rand.NewSource(4))
	for range 6000 {
		lines, want, least := layAll(r, r.Intn(6))
		text := strings.Join(lines, "\n") + pick(r, "", "\n")
		if least > 0 {
			checkError(t, "New", New, text, least, api.ErrForm)
			continue
		}
		checkLines(t, "New", New, text, want)
	}
}
