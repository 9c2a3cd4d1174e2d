package source

import "strings"

func (r *reader) readNew() {
	var d draft
	from := 0 // the line that goes on, or 0
	for i, line := range r.lines {
		at := i + 1
		if Comment(line, false) {
			if from > 0 && d.open != noQuote {
				r.wrong(at)
			}
			continue
		}
		text := strings.TrimRight(line[:findOutside(line, d.open, comment)], blank)
		further := strings.HasSuffix(text, goesOn)
		if from > 0 {
			text = r.joined(text, d.open, at)
		}
		d = r.part(d, strings.TrimSuffix(text, goesOn), at)
		if further {
			from = at
			continue
		}
		r.endNew(d)
		d, from = draft{}, 0
	}
	if from > 0 {
		r.wrong(from)
		r.endNew(d)
	}
}

// joined returns what a line adds to the one that goes on in it.
func (r *reader) joined(text string, open byte, at int) string {
	rest, marked := strings.CutPrefix(strings.TrimLeft(text, blank), goesOn)
	switch {
	case marked:
		return rest
	case open == noQuote:
		return blank + rest
	}
	r.wrong(at)
	return rest
}

// part ends all statements of a text but the last one, which it returns.
func (r *reader) part(d draft, text string, at int) draft {
	for {
		end := findOutside(text, d.open, parts)
		if d.at == 0 && strings.Trim(text[:end], blank) != "" {
			d.at = at
		}
		d.add(text[:end])
		if end == len(text) {
			return d
		}
		r.endNew(d)
		d, text = draft{}, text[end+1:]
	}
}

// endNew ends a statement that has its label in its text.
func (r *reader) endNew(d draft) {
	digits, rest := cutLabel(strings.Trim(d.text, blank))
	if digits != "" {
		label, ok := labelOf(digits)
		if !ok {
			r.wrong(d.at)
		}
		d.label, d.text = label, rest
	}
	r.end(d)
}
