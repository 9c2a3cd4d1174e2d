package source

import (
	"math/rand"
	"strings"
	"testing"

	"quadrat/api"
)

// fill is a line of the old form with blanks up to column 72.
func fill(line string) string {
	return line + strings.Repeat(" ", 72-len(line))
}

func TestOldByHand(t *testing.T) {
	xs := strings.Repeat("x", 65)
	for _, r := range []struct {
		text string
		want []api.Line
	}{
		{"", nil},
		{"\n", nil},
		{"\n\n   \n" + fill("") + "\n", nil},
		{"C\nc x\n*'\n!;&\ncontinue", nil},
		{"      x", []api.Line{{Text: "x", At: 1}}},
		{"      x\n", []api.Line{{Text: "x", At: 1}}},
		{"      x\n\n", []api.Line{{Text: "x", At: 1}}},
		{"      x   ", []api.Line{{Text: "x", At: 1}}},
		{"           x y", []api.Line{{Text: "x y", At: 1}}},
		{"      c\n      *\n      C x", []api.Line{{Text: "c", At: 1}, {Text: "*", At: 2}, {Text: "C x", At: 3}}},
		{"     0x", []api.Line{{Text: "x", At: 1}}},
		{"     00", []api.Line{{Text: "0", At: 1}}},
		{"      10", []api.Line{{Text: "10", At: 1}}},
		{"      1x y", []api.Line{{Text: "1x y", At: 1}}},
		{"10    x", []api.Line{{Label: 10, Text: "x", At: 1}}},
		{"   10 x", []api.Line{{Label: 10, Text: "x", At: 1}}},
		{" 10   x", []api.Line{{Label: 10, Text: "x", At: 1}}},
		{"   100x", []api.Line{{Label: 10, Text: "x", At: 1}}},
		{"999990x", []api.Line{{Label: 99999, Text: "x", At: 1}}},
		{"00001 x", []api.Line{{Label: 1, Text: "x", At: 1}}},
		{"    7 10", []api.Line{{Label: 7, Text: "10", At: 1}}},
		{"      a\n     0b\n    3 c", []api.Line{{Text: "a", At: 1}, {Text: "b", At: 2}, {Label: 3, Text: "c", At: 3}}},
		// what goes on: a line is filled up to column 72, but not if a comment ends it
		{"      a\n     &b", []api.Line{{Text: "a" + strings.Repeat(" ", 65) + "b", At: 1}}},
		{"      " + xs + "y\n     &b", []api.Line{{Text: xs + "yb", At: 1}}},
		{"      " + xs + "\n     & b", []api.Line{{Text: xs + "  b", At: 1}}},
		{"      a!\n     &b", []api.Line{{Text: "ab", At: 1}}},
		{"      a ! c 'd\n     & b", []api.Line{{Text: "a  b", At: 1}}},
		{"      a!1\n     1b!2\n     !c!3\n     'd\n", []api.Line{{Text: "abcd", At: 1}}},
		{"      a!\n     *b!\n     Cc!\n     9d!\n     ;e!\n      f", []api.Line{{Text: "abcde", At: 1}, {Text: "f", At: 6}}},
		{"      a!\nC\n\n     &b!\n* '\n      \n!\n     &c", []api.Line{{Text: "abc", At: 1}}},
		{"      a\n     &\n     & !\n     &b", []api.Line{{Text: "a" + strings.Repeat(" ", 132) + "b", At: 1}}},
		{"      a\n     &", []api.Line{{Text: "a", At: 1}}},
		{"      a!\n     &!", []api.Line{{Text: "a", At: 1}}},
		{"   12\n     &a", []api.Line{{Label: 12, Text: "a", At: 1}}},
		{"     0!\n\n     &a", []api.Line{{Text: "a", At: 1}}},
		{"      ! nothing\n     0\n     0    !\n      a", []api.Line{{Text: "a", At: 4}}},
		{"      !\n     &\n     &!\n      a", []api.Line{{Text: "a", At: 4}}},
		// quotes
		{"      x = '!' ! '", []api.Line{{Text: "x = '!'", At: 1}}},
		{`      x = "'!;" // 'a";!'!`, []api.Line{{Text: `x = "'!;" // 'a";!'`, At: 1}}},
		{"      x = 'it''s; !'", []api.Line{{Text: "x = 'it''s; !'", At: 1}}},
		{"      x = '&'", []api.Line{{Text: "x = '&'", At: 1}}},
		{"      x & y", []api.Line{{Text: "x & y", At: 1}}},
		{"      x = 'a\n     &b'", []api.Line{{Text: "x = 'a" + strings.Repeat(" ", 60) + "b'", At: 1}}},
		{"      x = 'a\nc '\n\n     &!;'!'", []api.Line{{Text: "x = 'a" + strings.Repeat(" ", 60) + "!;'", At: 1}}},
		{"      x = 'a\n     &' ! b'\n     &c", []api.Line{{Text: "x = 'a" + strings.Repeat(" ", 60) + "' c", At: 1}}},
		{fill("      x = 'a")[:71] + "'\n     &'b'", []api.Line{{Text: "x = 'a" + strings.Repeat(" ", 59) + "''b'", At: 1}}},
		{fill("      x = 'a")[:71] + "'\n     &!b'", []api.Line{{Text: "x = 'a" + strings.Repeat(" ", 59) + "'", At: 1}}},
	} {
		checkLines(t, "Old", Old, r.text, r.want)
	}
}

func TestOldErrors(t *testing.T) {
	for _, r := range []struct {
		text string
		at   int
	}{
		// bytes, also in comments, and blank lines
		{"\t", 1}, {"      x\x1f", 1}, {"      x\x7f", 1}, {"      x = '\x00'", 1}, {"c\n      x ! \xc3\xa4\n", 2}, {"      x\r\n", 1}, {"      x\n     &y\t\n      z", 2}, {"      x\nc \xff\n     &y", 2}, {"      x\n\n\n\x01", 4},
		// lines of more than 72 bytes
		{fill("      x") + " ", 1}, {fill("") + " ", 1}, {fill("c") + "x", 1}, {"      x\n" + fill("     &") + "y\n", 2}, {"      " + strings.Repeat("x", 66) + "!", 1}, {"      x\n      x !" + strings.Repeat(" ", 70), 2},
		// labels
		{"    0 x", 1}, {"0     x", 1}, {"00000 x", 1}, {"1 2   x", 1}, {" 1 1 0x", 1}, {"   a  x", 1}, {"x = 1", 1}, {"  +1  x", 1}, {"  1.  x", 1}, {"    - x", 1}, {" ! x", 1}, {"      x\n 1a   y", 2}, {"  c", 1},
		// what goes on
		{"     &x", 1}, {"c\n\n     1x\n", 3}, {"     &x\n     &y", 1}, {"     !x", 1}, {"      x\n   10&y", 2}, {"      x\n0    &y", 2}, {"      x\n a   &y", 2}, {"   10&y", 1},
		// quotes that are not closed
		{"      '", 1}, {"      x = 'a", 1}, {`      x = 'a"`, 1}, {"      x = 'a''", 1}, {"c\n      x = 'a\n      y = 1\n", 2}, {"      x = 'a\n     &b\n     &c\n", 1}, {"      x = 'a\nc'\n      y'", 1}, {"      x\n      y = '\n    1 z\n", 2}, {`      x = "it''s'`, 1},
		// texts that no statement has
		{"      x;y", 1}, {"      ;", 1}, {"      x;", 1}, {"      x = ';';", 1}, {"      x\n      y;\n", 2}, {"      x &", 1}, {"      x&!c", 1}, {"      &", 1}, {"      x\n     &y &\n", 1}, {"      1 x", 1}, {"    1 2 x", 1}, {"     012 x", 1}, {"      x\n      12   y", 2},
		// labels alone
		{"   10", 1}, {"1", 1}, {"   10 ! x", 1}, {"    50", 1}, {"      x\n   10\n      y", 2}, {"   10\n     &\nc\n", 1}, {"   10\n      x", 1},
		// the least line
		{"      x = 'a\n      y\t", 1}, {"      x = 'a\n     &b\n 1 2  y\n", 1}, {"      x;\n     &'\n\x80", 1}, {"\n      x\t\n      y;\n      z'", 2}, {"   10\n     &'\n    0 x", 1}, {"      x = 'a\n     &b'\t\n      y'", 2},
	} {
		checkError(t, "Old", Old, r.text, r.at, api.ErrForm)
	}
}

func TestOldLimits(t *testing.T) {
	many := strings.Repeat("      x\n", api.MaxStmts)
	if l, at, err := Old(many); len(l) != api.MaxStmts || at != 0 || err != api.OK {
		t.Errorf("as many statements as there may be: %d, %d, %d", len(l), at, err)
	}
	if l, _, err := Old(many + "     &y\nc\n\n      !"); len(l) != api.MaxStmts || err != api.OK {
		t.Errorf("as many statements, and more lines: %d, %d", len(l), err)
	}
	checkError(t, "Old", Old, many+"      x", 0, api.ErrLimit)
	checkError(t, "Old", Old, many+"      x\n      y;", api.MaxStmts+2, api.ErrForm)
	checkError(t, "Old", Old, many+"      '", api.MaxStmts+1, api.ErrForm)

	long := strings.Repeat("c 45678\n", api.MaxText/8)
	checkLines(t, "Old", Old, long[:api.MaxText-8]+"      x\n", []api.Line{{Text: "x", At: api.MaxText / 8}})
	checkError(t, "Old", Old, long[:api.MaxText-1]+"\x01", api.MaxText/8, api.ErrForm)
	checkError(t, "Old", Old, long+"\n", 0, api.ErrLimit)
	checkError(t, "Old", Old, long+"\x01", 0, api.ErrLimit)
	checkError(t, "Old", Old, strings.Repeat("\t", api.MaxText+1), 0, api.ErrLimit)
	checkError(t, "Old", Old, strings.Repeat("\n", 1<<20), 0, api.ErrLimit)

	// a short text that fills many columns
	lines := 120
	checkLines(t, "Old", Old, "      x\n"+strings.Repeat("     &\n", lines-1)+"     &y", []api.Line{{Text: "x" + strings.Repeat(" ", 66*lines-1) + "y", At: 1}})
}

// oldComment is a line that the old form passes over.
func oldComment(r *rand.Rand) string {
	return pick(r, "", "   ", "C", "c'x", "*", "! ;", "call", strings.Repeat(" ", 72))
}

// oldLabelField is a label somewhere in columns 1 to 5.
func oldLabelField(r *rand.Rand, label int) string {
	digits := ""
	if label > 0 {
		digits = digitsOf(r, label)
	}
	ahead := r.Intn(6 - len(digits))
	return strings.Repeat(" ", ahead) + digits + strings.Repeat(" ", 5-ahead-len(digits))
}

// layOld lays a statement into lines of the old form, and returns the text that this means.
func layOld(r *rand.Rand, s api.Line) (lines []string, text string) {
	front := oldLabelField(r, s.Label) + pick(r, " ", "0")
	for left := s.Text; ; {
		piece := left[:min(len(left), 1+r.Intn(66))]
		left = left[len(piece):]
		text += piece
		open := isOpen(text)
		line := front + piece
		switch {
		case left == "":
			if len(line) < 72 && r.Intn(3) == 0 {
				line += " ! ;'"[:min(5, 72-len(line))]
			}
			return append(lines, line), text
		case !open && len(line) < 72 && r.Intn(2) == 0:
			line += "!" + pick(r, "", "'", ";&", " x")
			line = line[:min(72, len(line))]
		default:
			text += strings.Repeat(" ", 72-len(line))
		}
		lines = append(lines, line)
		for r.Intn(3) == 0 {
			lines = append(lines, oldComment(r))
		}
		front = "     " + pick(r, "&", "1", "!", "'", "*", "C", ";", "9", "x")
	}
}

func TestOldLaid(t *testing.T) {
	r := rand.New(rand.NewSource(3))
	for range 4000 {
		var lines []string
		var want []api.Line
		for range r.Intn(6) {
			for r.Intn(3) == 0 {
				lines = append(lines, oldComment(r))
			}
			s := api.Line{Label: someLabel(r), Text: someText(r, 30), At: len(lines) + 1}
			more, text := layOld(r, s)
			lines, s.Text = append(lines, more...), text
			if !isRight(s) { // a filled line may end the digits at its front
				checkError(t, "Old", Old, strings.Join(lines, "\n"), s.At, api.ErrForm)
				lines = lines[:s.At-1]
				continue
			}
			want = append(want, s)
		}
		checkLines(t, "Old", Old, strings.Join(lines, "\n")+pick(r, "", "\n"), want)
	}
}
