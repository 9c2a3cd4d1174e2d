package tree

import (
	"slices"

	"quadrat/api"
	"quadrat/token"
)

// cursor reads the tokens of one statement from the left. Once something is malformed it has no more tokens, so that whatever reads by it ends.
type cursor struct {
	tokens []api.Token
	bad    bool // something is malformed
	deep   bool // an expression has too many levels
	nested int  // how many operands are being read, each one within another
}

func newCursor(text string) *cursor {
	tokens, _, err := token.Scan(text)
	return &cursor{tokens: partColons(tokens), bad: err != api.OK}
}

// partColons returns tokens such that two colons within brackets stand by themselves: a subscript may leave out what is between them, and only ahead of entities they are one token.
func partColons(l []api.Token) []api.Token {
	var parted []api.Token
	open := 0
	for _, t := range l {
		switch {
		case isOp(t, "("):
			open++
		case isOp(t, ")"):
			open--
		case isOp(t, "::") && open > 0:
			t.Text = ":"
			parted = append(parted, t)
		}
		parted = append(parted, t)
	}
	return parted
}

func isOp(t api.Token, text string) bool {
	return t == api.Token{Kind: kindOp, Text: text}
}

func (c *cursor) fail() {
	c.bad = true
	c.tokens = nil
}

// over reports whether all is read, and nothing was malformed.
func (c *cursor) over() bool {
	return len(c.tokens) == 0 && !c.bad
}

// peek returns the token that comes next; one of no kind, if there is none.
func (c *cursor) peek() api.Token {
	if len(c.tokens) == 0 {
		return api.Token{}
	}
	return c.tokens[0]
}

func (c *cursor) next() api.Token {
	t := c.peek()
	c.tokens = c.tokens[min(1, len(c.tokens)):]
	return t
}

func (c *cursor) is(op string) bool {
	return isOp(c.peek(), op)
}

// take passes over an operator, if it comes next, and reports whether it does.
func (c *cursor) take(op string) bool {
	is := c.is(op)
	if is {
		c.next()
	}
	return is
}

// want passes over an operator that must come next.
func (c *cursor) want(op string) {
	if !c.take(op) {
		c.fail()
	}
}

func (c *cursor) name() string {
	t := c.next()
	if t.Kind != kindName {
		c.fail()
		return ""
	}
	return t.Text
}

// several reads one thing or more, with commas between.
func (c *cursor) several(one func()) {
	one()
	for c.take(",") {
		one()
	}
}

// inBrackets reads any number of things, with commas between; without things there may be no brackets either.
func (c *cursor) inBrackets(one func()) {
	if !c.take("(") {
		return
	}
	if !c.is(")") {
		c.several(one)
	}
	c.want(")")
}

// leads reports whether these words come next. No word is reserved: at a statement's beginning it is begins that asks.
func (c *cursor) leads(words ...string) bool {
	if len(words) > len(c.tokens) {
		return false
	}
	for i, w := range words {
		if c.tokens[i] != (api.Token{Kind: kindName, Text: w}) {
			return false
		}
	}
	return true
}

// begins reports whether a statement begins with these words: an assignment does not, whatever its target's name is.
func (c *cursor) begins(words ...string) bool {
	return c.leads(words...) && !c.assigns()
}

// beginsWithOne returns the place of the word with which a statement begins, or -1, if it is none of them.
func (c *cursor) beginsWithOne(words ...string) int {
	return slices.IndexFunc(words, func(w string) bool { return c.begins(w) })
}

// isAll reports whether a statement has these words and nothing else.
func (c *cursor) isAll(words ...string) bool {
	return c.leads(words...) && len(c.tokens) == len(words)
}

// skip passes over so many tokens that were looked at.
func (c *cursor) skip(n int) {
	c.tokens = c.tokens[n:]
}

// takes passes over these words, if a statement begins with them, and reports whether it does.
func (c *cursor) takes(words ...string) bool {
	begins := c.begins(words...)
	if begins {
		c.skip(len(words))
	}
	return begins
}

// assigns reports whether a statement is an assignment.
func (c *cursor) assigns() bool {
	behind := 1
	if c.peek().Kind == kindName && len(c.tokens) > 1 && isOp(c.tokens[1], "(") {
		behind = c.closing() + 1
	}
	return behind < len(c.tokens) && isOp(c.tokens[behind], "=")
}

// closing returns the place of the bracket that closes the first one that opens; it is behind all tokens, if there is none.
func (c *cursor) closing() int {
	open := 0
	for i, t := range c.tokens {
		switch {
		case isOp(t, "("):
			open++
		case isOp(t, ")"):
			open--
			if open == 0 {
				return i
			}
		}
	}
	return len(c.tokens)
}
