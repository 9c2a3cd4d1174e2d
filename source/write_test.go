package source

import (
	"slices"
	"strings"
	"testing"

	"quadrat/api"
)

// some is a text of so many bytes, all places of which differ from those near by.
func some(size int) string {
	return strings.Repeat("abcdefghijklmnopqrstuvwxyz_0123456789", size/37+1)[:size]
}

func checkWritten(t *testing.T, l []api.Line, inNew, inOld string) {
	t.Helper()
	if text, err := WriteNew(l); text != inNew || err != api.OK {
		t.Errorf("WriteNew of %v: %q, %d instead of %q", l, text, err, inNew)
	}
	if text, err := WriteOld(l); text != inOld || err != api.OK {
		t.Errorf("WriteOld of %v: %q, %d instead of %q", l, text, err, inOld)
	}
}

func TestWriteByHand(t *testing.T) {
	checkWritten(t, nil, "", "")
	checkWritten(t, []api.Line{}, "", "")
	checkWritten(t, []api.Line{{Text: "x = 1"}}, "x = 1\n", "      x = 1\n")
	checkWritten(t, []api.Line{{Label: 7, Text: "10"}, {Text: "1x y", At: -5}, {Label: 99999, Text: "a = '; ! &'", At: 1}}, "7 10\n1x y\n99999 a = '; ! &'\n", "7     10\n      1x y\n99999 a = '; ! &'\n")
	checkWritten(t, []api.Line{{Label: 120, Text: "& c"}, {Label: 1234, Text: "* 'x'"}}, "120 & c\n1234 * 'x'\n", "120   & c\n1234  * 'x'\n")
}

func TestWriteCuts(t *testing.T) {
	x := some(310)
	for _, r := range []struct {
		s            api.Line
		inNew, inOld string
	}{
		{api.Line{Text: x[:66]}, x[:66] + "\n", "      " + x[:66] + "\n"},
		{api.Line{Text: x[:67]}, x[:67] + "\n", "      " + x[:66] + "\n     &" + x[66:67] + "\n"},
		{api.Line{Label: 123, Text: x[:66]}, "123 " + x[:66] + "\n", "123   " + x[:66] + "\n"},
		{api.Line{Label: 12345, Text: x[:67]}, "12345 " + x[:67] + "\n", "12345 " + x[:66] + "\n     &" + x[66:67] + "\n"},
		{api.Line{Text: x[:100]}, x[:100] + "\n", "      " + x[:66] + "\n     &" + x[66:100] + "\n"},
		{api.Line{Text: x[:101]}, x[:100] + "&\n&" + x[100:101] + "\n", "      " + x[:66] + "\n     &" + x[66:101] + "\n"},
		{api.Line{Label: 5, Text: x[:98]}, "5 " + x[:98] + "\n", "5     " + x[:66] + "\n     &" + x[66:98] + "\n"},
		{api.Line{Label: 5, Text: x[:99]}, "5 " + x[:98] + "&\n&" + x[98:99] + "\n", "5     " + x[:66] + "\n     &" + x[66:99] + "\n"},
		{api.Line{Text: x[:132]}, x[:100] + "&\n&" + x[100:132] + "\n", "      " + x[:66] + "\n     &" + x[66:132] + "\n"},
		{api.Line{Text: x[:200]}, x[:100] + "&\n&" + x[100:200] + "\n", "      " + x[:66] + "\n     &" + x[66:132] + "\n     &" + x[132:198] + "\n     &" + x[198:200] + "\n"},
		{api.Line{Text: x[:201]}, x[:100] + "&\n&" + x[100:200] + "&\n&" + x[200:201] + "\n", "      " + x[:66] + "\n     &" + x[66:132] + "\n     &" + x[132:198] + "\n     &" + x[198:201] + "\n"},
		{api.Line{Label: 99999, Text: x[:301]}, "99999 " + x[:94] + "&\n&" + x[94:194] + "&\n&" + x[194:294] + "&\n&" + x[294:301] + "\n", "99999 " + x[:66] + "\n     &" + x[66:132] + "\n     &" + x[132:198] + "\n     &" + x[198:264] + "\n     &" + x[264:301] + "\n"},
	} {
		checkWritten(t, []api.Line{r.s}, r.inNew, r.inOld)
		y := api.Line{Text: "y"}
		checkWritten(t, []api.Line{y, r.s, y}, "y\n"+r.inNew+"y\n", "      y\n"+r.inOld+"      y\n")
	}
	// a cut keeps blanks, and what stands in quotes
	blank := strings.Repeat(" ", 120)
	checkWritten(t, []api.Line{{Text: "a" + blank + "'!;'"}}, "a"+blank[:99]+"&\n&"+blank[:21]+"'!;'\n", "      a"+blank[:65]+"\n     &"+blank[:55]+"'!;'\n")
}

func TestWriteRefused(t *testing.T) {
	x := api.Line{Text: "x"}
	lists := [][]api.Line{slices.Repeat([]api.Line{x}, api.MaxStmts+1), {x, {Label: -1, Text: "x"}}, {{Label: 100000, Text: "x"}, x}, {{Label: 10}}, {{Text: some(api.MaxText + 1)}}}
	for _, text := range []string{"", " ", " x", "x ", "x;", "x;y", "!x", "x ! y", "'", "x = 'a", "'''", "x &", "&", "1 x", "10 20", "x\n", "\t", "'\x7f'", "\xc3\xa4"} {
		lists = append(lists, []api.Line{x, {Text: text}, x})
	}
	long := api.Line{Text: some(api.MaxText)} // too much for one result; but what is not Valid is told first
	for _, l := range lists {
		for _, l := range [][]api.Line{l, append([]api.Line{long, long}, l...)} {
			if text, err := WriteNew(l); text != "" || err != api.ErrArg {
				t.Errorf("WriteNew of %v: %q, %d", l, text, err)
			}
			if text, err := WriteOld(l); text != "" || err != api.ErrArg {
				t.Errorf("WriteOld of %v: %q, %d", l, text, err)
			}
		}
	}
}

// written are statements of one line each, so many of so many bytes.
func written(count, size int) []api.Line {
	return slices.Repeat([]api.Line{{Text: some(size)}}, count)
}

func TestWriteLimits(t *testing.T) {
	for _, r := range []struct {
		name  string
		write func([]api.Line) (string, api.Errno)
		l     []api.Line
		size  int // 0: too much
	}{
		{"WriteNew", WriteNew, written(80, 99), 8000},
		{"WriteNew", WriteNew, append(written(79, 99), written(1, 100)...), 0},
		{"WriteNew", WriteNew, append(written(79, 99), api.Line{Label: 1, Text: some(97)}), 8000},
		{"WriteNew", WriteNew, append(written(79, 99), api.Line{Label: 1, Text: some(98)}), 0},
		{"WriteNew", WriteNew, written(1, 7768), 8000},
		{"WriteNew", WriteNew, written(1, 7769), 0},
		{"WriteNew", WriteNew, written(1, 8000), 0},
		{"WriteNew", WriteNew, written(200, 8000), 0},
		{"WriteOld", WriteOld, written(200, 33), 8000},
		{"WriteOld", WriteOld, append(written(199, 33), written(1, 34)...), 0},
		{"WriteOld", WriteOld, append(written(199, 33), api.Line{Label: 99999, Text: some(33)}), 8000},
		{"WriteOld", WriteOld, written(1, 7230), 8000},
		{"WriteOld", WriteOld, written(1, 7231), 0},
		{"WriteOld", WriteOld, written(1, 8000), 0},
		{"WriteOld", WriteOld, written(200, 8000), 0},
	} {
		text, err := r.write(r.l)
		if len(text) != r.size || (err == api.OK) != (r.size > 0) || err != api.OK && err != api.ErrLimit {
			t.Errorf("%s of %d statements: %d bytes, %d", r.name, len(r.l), len(text), err)
		}
	}
}

func TestWriteChangesNothing(t *testing.T) {
	l := []api.Line{{Label: 3, Text: some(300), At: 9}, {Text: "x", At: 2}}
	was := slices.Clone(l)
	a, _ := WriteNew(l)
	b, _ := WriteNew(l)
	c, _ := WriteOld(l)
	d, _ := WriteOld(l)
	if !slices.Equal(l, was) || a != b || c != d {
		t.Error("to write changes something")
	}
}
