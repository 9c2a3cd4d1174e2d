package source

import (
	"strconv"
	"strings"

	"quadrat/api"
)

// So many bytes of a statement stand in a line.
const (
	newPiece = 100
	oldPiece = oldWidth - frontColumns
)

// oldGoesOn stands ahead of the text in the old form's further lines.
const oldGoesOn = "     &"

// cutter gives the lines of a statement to a function.
type cutter func(s api.Line, line func(text string))

func write(l []api.Line, cut cutter) (string, api.Errno) {
	if !Valid(l) {
		return "", api.ErrArg
	}
	var out strings.Builder
	line := func(text string) {
		out.WriteString(text)
		out.WriteByte('\n')
	}
	for _, s := range l {
		cut(s, line)
	}
	if out.Len() > api.MaxText {
		return "", api.ErrLimit
	}
	return out.String(), api.OK
}

func cutNew(s api.Line, line func(text string)) {
	front, text := "", s.Text
	if s.Label > 0 {
		text = strconv.Itoa(s.Label) + blank + text
	}
	for len(text) > newPiece {
		line(front + text[:newPiece] + goesOn)
		front, text = goesOn, text[newPiece:]
	}
	line(front + text)
}

func cutOld(s api.Line, line func(text string)) {
	label := ""
	if s.Label > 0 {
		label = strconv.Itoa(s.Label)
	}
	front, text := label+strings.Repeat(blank, frontColumns-len(label)), s.Text
	for len(text) > oldPiece {
		line(front + text[:oldPiece])
		front, text = oldGoesOn, text[oldPiece:]
	}
	line(front + text)
}
