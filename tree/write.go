package tree

import (
	"strconv"
	"strings"

	"quadrat/api"
)

// style is how statements are written: plainly, or with as few bytes as they can have.
type style bool

const (
	plain    style = false
	shortest style = true
)

// writer writes the statements of a file.
type writer struct {
	style style
	gap   string          // a blank that is not needed
	text  strings.Builder // the statement at hand
	done  []string
}

func newWriter(s style) *writer {
	w := &writer{style: s}
	if s == plain {
		w.gap = " "
	}
	return w
}

func (w *writer) put(texts ...string) {
	for _, t := range texts {
		w.text.WriteString(t)
	}
}

// line writes what ends a statement.
func (w *writer) line(texts ...string) {
	w.put(texts...)
	w.done = append(w.done, w.text.String())
	w.text.Reset()
}

// separated writes so many things with commas between.
func (w *writer) separated(n int, one func(i int)) {
	for i := range n {
		if i > 0 {
			w.comma()
		}
		one(i)
	}
}

func (w *writer) comma() {
	w.put(",", w.gap)
}

// sign writes an operator between two things.
func (w *writer) sign(op string) {
	w.put(w.gap, op, w.gap)
}

// bracketed writes an expression that always stands in brackets.
func (w *writer) bracketed(e api.Expr) {
	w.put("(")
	w.expr(e)
	w.put(")")
}

func (w *writer) expr(e api.Expr) {
	w.operand(e, orLevel)
}

func (w *writer) exprs(l []api.Expr) {
	w.separated(len(l), func(i int) { w.expr(l[i]) })
}

// operand writes an expression that needs brackets if its operator binds less strongly.
func (w *writer) operand(e api.Expr, least int) {
	if e.Kind != kindOp {
		w.single(e)
		return
	}
	level := levelOfOp(e)
	if level < least {
		w.bracketed(e)
		return
	}
	switch {
	case len(e.Kids) == 2:
		w.operand(e.Kids[0], leastLeft(level))
		w.sign(e.Text)
		w.operand(e.Kids[1], leastRight(level))
	case level == notLevel:
		w.put(e.Text, w.gap)
		w.operand(e.Kids[0], leastOnly(level))
	default:
		w.put(e.Text)
		w.operand(e.Kids[0], leastOnly(level))
	}
}

// single writes an expression without an operator, or a triple.
func (w *writer) single(e api.Expr) {
	switch e.Kind {
	case kindItem:
		w.put(e.Text, "(")
		w.exprs(e.Kids)
		w.put(")")
	case kindList:
		w.put("[")
		w.exprs(e.Kids)
		w.put("]")
	case kindTriple:
		w.triple(e)
	case kindInt:
		w.put(strconv.Itoa(e.N))
	case kindLogical:
		w.put(logicalText(e.N))
	case kindText:
		w.put(w.quoted(e.Text))
	default: // a triple's missing part has no text
		w.put(e.Text)
	}
}

func logicalText(n int) string {
	if n == 1 {
		return isTrue
	}
	return isFalse
}

// quoted returns a text in quotes, of which those within are doubled.
func (w *writer) quoted(text string) string {
	quote := "'"
	if w.style == shortest && strings.Count(text, `"`) < strings.Count(text, quote) {
		quote = `"`
	}
	return quote + strings.ReplaceAll(text, quote, quote+quote) + quote
}

func (w *writer) triple(e api.Expr) {
	w.expr(e.Kids[0])
	w.put(":")
	w.expr(e.Kids[1])
	if e.Kids[2].Kind != kindNone {
		w.put(":")
		w.expr(e.Kids[2])
	}
}
