package source

import "strings"

const (
	oldWidth     = 72
	labelColumns = 5
	frontColumns = 6 // ahead of the text
	oldComments  = "Cc*!"
	oldBegins    = " 0" // in column 6
)

func (r *reader) readOld() {
	var d draft
	for i, line := range r.lines {
		if Comment(line, true) {
			continue
		}
		at := i + 1
		line = filled(line)
		label := strings.Trim(line[:labelColumns], blank)
		switch {
		case strings.Contains(oldBegins, line[labelColumns:frontColumns]):
			r.end(d)
			d = draft{label: r.oldLabel(label, at), at: at}
		case d.at == 0:
			r.wrong(at)
			d.at = at
		case label != "":
			r.wrong(at)
		}
		text := line[frontColumns:]
		d.add(text[:findOutside(text, d.open, comment)])
	}
	r.end(d)
}

// filled returns a line's columns.
func filled(line string) string {
	return (line + strings.Repeat(blank, oldWidth))[:oldWidth]
}

func (r *reader) oldLabel(text string, at int) int {
	if text == "" {
		return 0
	}
	label, ok := labelOf(text)
	if !ok {
		r.wrong(at)
	}
	return label
}
