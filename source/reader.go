package source

import (
	"strings"

	"quadrat/api"
)

// reader gathers the statements of a text. It reads on behind a line that is wrong, because one ahead of it may turn out to be wrong later: quotes that are never closed belong to the line where their statement begins.
type reader struct {
	lines      []string
	statements []api.Line
	least      int // the least line that is wrong, or 0
}

// newReader looks at what both forms ask of each line, comments too. Nothing behind the last line feed is one more blank line, which tells nothing.
func newReader(text string, width int) *reader {
	r := &reader{lines: strings.Split(text, "\n")}
	for i, line := range r.lines {
		if len(line) > width || !printable(line) {
			r.wrong(i + 1)
		}
	}
	return r
}

func (r *reader) wrong(at int) {
	if r.least == 0 || at < r.least {
		r.least = at
	}
}

func (r *reader) result() ([]api.Line, int, api.Errno) {
	switch {
	case r.least > 0:
		return nil, r.least, api.ErrForm
	case len(r.statements) > api.MaxStmts:
		return nil, 0, api.ErrLimit
	}
	return r.statements, 0, api.OK
}

// draft is a statement while it is read.
type draft struct {
	label, at int
	text      string
	open      byte // the quote that is open behind the text
}

func (d *draft) add(text string) {
	d.text += text
	d.open = openBehind(text, d.open)
}

// end takes what was read as a statement; one that has nothing is none.
func (r *reader) end(d draft) {
	text := strings.Trim(d.text, blank)
	if text == "" && d.label == 0 {
		return
	}
	if !isStatement(text) {
		r.wrong(d.at)
		return
	}
	r.statements = append(r.statements, api.Line{Label: d.label, Text: text, At: d.at})
}
