package source

import (
	"math/rand"
	"strings"
	"testing"

	"quadrat/api"
)

// checkBack writes statements in both forms, and reads them back.
func checkBack(t *testing.T, l []api.Line) {
	t.Helper()
	for _, form := range []struct {
		name  string
		write func([]api.Line) (string, api.Errno)
		read  reading
	}{{"new", WriteNew, New}, {"old", WriteOld, Old}} {
		text, err := form.write(l)
		if err == api.ErrLimit {
			continue
		}
		back, at, e := form.read(text)
		if err != api.OK || at != 0 || e != api.OK || len(back) != len(l) {
			t.Fatalf("%v in the %s form: %d, %d statements, %d, %d", l, form.name, err, len(back), at, e)
		}
		for i, s := range back {
			if s.Label != l[i].Label || s.Text != l[i].Text || i > 0 && s.At <= back[i-1].At || s.At < 1 {
				t.Fatalf("%v in the %s form: %v", l[i], form.name, s)
			}
			if line := strings.Split(text, "\n")[s.At-1]; !strings.Contains(line, s.Text[:min(66, len(s.Text))]) {
				t.Fatalf("%v begins at %q", s, line)
			}
		}
	}
}

func TestReadBack(t *testing.T) {
	r := rand.New(rand.NewSource(5))
	checkBack(t, nil)
	for range 3000 {
		var l []api.Line
		for range r.Intn(8) {
			l = append(l, api.Line{Label: someLabel(r), Text: someText(r, 1+r.Intn(200)), At: r.Intn(5)})
		}
		checkBack(t, l)
	}
	for range 30 {
		var l []api.Line
		for range api.MaxStmts {
			l = append(l, api.Line{Label: someLabel(r), Text: someText(r, 6)})
		}
		checkBack(t, l)
	}
}

// Cuts at all places of what decides where statements end.
func TestReadBackCuts(t *testing.T) {
	for _, mark := range []string{"'it''s'", `"''"`, "'!'", "';'", "'&'", "&&x", "'&&'x", "'    '", "    x", "& & x", "12 x", "' ! '", "'&", `"; !& "`} {
		for size := range 210 {
			for _, front := range []string{strings.Repeat("x", size), strings.Repeat("1", size), "x" + strings.Repeat(" ", size), "'" + strings.Repeat(" ", size)} {
				s := api.Line{Label: size % 3 * 4999, Text: front + mark}
				for _, s := range []api.Line{s, {Label: s.Label, Text: s.Text + "'"}, {Label: s.Label, Text: s.Text + some(150)}} {
					if isRight(s) {
						checkBack(t, []api.Line{s, {Text: "y"}, s})
					}
				}
			}
		}
	}
}

// checkRead looks at what a reader tells of any text.
func checkRead(t *testing.T, name string, read reading, text string) {
	t.Helper()
	l, at, err := read(text)
	lines := strings.Count(text, "\n") + 1
	switch err {
	case api.OK:
		for i, s := range l {
			if s.At < 1 || s.At > lines || i > 0 && s.At < l[i-1].At || !isRight(s) && len(s.Text) <= api.MaxText {
				t.Fatalf("%s of %q: %v", name, text, s)
			}
		}
		if at != 0 || len(l) > api.MaxStmts || name == "New" && !Valid(l) {
			t.Fatalf("%s of %q: %d statements, %d", name, text, len(l), at)
		}
	case api.ErrForm:
		if len(l) > 0 || at < 1 || at > lines {
			t.Fatalf("%s of %q: %d statements, %d", name, text, len(l), at)
		}
	default:
		t.Fatalf("%s of %q: %d", name, text, err)
	}
	again, where, e := read(text)
	if len(again) != len(l) || where != at || e != err {
		t.Fatalf("%s of %q differs from call to call", name, text)
	}
}

func TestAnyText(t *testing.T) {
	everyText("1 &;'!\n", 6, func(text string) {
		checkRead(t, "New", New, text)
		checkRead(t, "Old", Old, text)
		checkRead(t, "Old", Old, "      "+text+"      ")
	})
	r := rand.New(rand.NewSource(6))
	for range 20000 {
		var b strings.Builder
		for range r.Intn(40) {
			b.WriteString(pick(r, "\n", "\n     &", "\n      ", "\n  10  ", "&\n", "&\n&", "x", " ", "'", `"`, ";", "!", "&", "10 ", "\nC", "\x00", "\xff", strings.Repeat(" ", 30)))
		}
		checkRead(t, "New", New, b.String())
		checkRead(t, "Old", Old, b.String())
	}
}
