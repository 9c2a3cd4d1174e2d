package tree

import (
	"strconv"

	"quadrat/api"
)

// How strongly operators bind, from the weakest; operands bind most strongly.
const (
	orLevel = 1 + iota
	andLevel
	notLevel
	comparisonLevel
	sumLevel
	termLevel
	operandLevel
)

// mostKids is how many subscripts or elements there may be.
const mostKids = 100

// mostNested is how many brackets may stand within each other, because each one is a call within a call. Beyond that nothing is promised.
const mostNested = 1 << 16

// Words in dots.
const (
	not     = ".not."
	isTrue  = ".true."
	isFalse = ".false."
)

// binaryLevel returns how strongly an operator of two operands binds, 0 where there is no such one.
func binaryLevel(op string) int {
	switch op {
	case ".or.":
		return orLevel
	case ".and.":
		return andLevel
	case "==", "/=", "<", "<=", ">", ">=":
		return comparisonLevel
	case "+", "-":
		return sumLevel
	case "*", "/":
		return termLevel
	}
	return 0
}

// unaryLevel returns how strongly an operator of one operand binds, 0 where there is no such one.
func unaryLevel(op string) int {
	switch op {
	case not:
		return notLevel
	case "+", "-":
		return sumLevel
	}
	return 0
}

// leastLeft returns how strongly the left one of two operands binds at least. Operators go from the left, but there is just one comparison.
func leastLeft(level int) int {
	if level == comparisonLevel {
		return level + 1
	}
	return level
}

// leastRight returns how strongly the right one of two operands binds at least.
func leastRight(level int) int {
	return level + 1
}

// leastOnly returns how strongly an only operand binds at least. A sign is ahead of a term, .not. also ahead of another one.
func leastOnly(level int) int {
	if level == notLevel {
		return level
	}
	return level + 1
}

// part is an expression or a subscript, and how many levels it has.
type part struct {
	expr   api.Expr
	levels int
}

// node returns an expression above its parts. What is too deep is not kept, because a statement with it has no tree.
func (c *cursor) node(kind, text string, kids ...*part) *part {
	p := &part{api.Expr{Kind: kind, Text: text}, 1}
	for _, k := range kids {
		p.expr.Kids = append(p.expr.Kids, k.expr)
		p.levels = max(p.levels, k.levels+1)
	}
	if p.levels > api.MaxDeep {
		c.deep = true
		p.expr = api.Expr{}
	}
	return p
}

func (c *cursor) expression() api.Expr {
	return c.whole().expr
}

func (c *cursor) whole() *part {
	return c.operation(orLevel)
}

// operation reads operands and operators of which each binds at least so strongly.
func (c *cursor) operation(least int) *part {
	left, bound := c.first(least)
	for {
		level := levelOf(c.peek(), binaryLevel)
		if level < least || bound < leastLeft(level) {
			return left
		}
		op := c.next().Text
		left = c.node(kindOp, op, left, c.operation(leastRight(level)))
		bound = level
	}
}

// first reads what an operation begins with, and returns how strongly this binds.
func (c *cursor) first(least int) (p *part, bound int) {
	level := levelOf(c.peek(), unaryLevel)
	switch {
	case level < least:
		return c.operand(), operandLevel
	case level == notLevel:
		return c.negation(), level
	}
	op := c.next().Text
	return c.node(kindOp, op, c.operation(leastOnly(level))), level
}

// negation reads all of the .not. that follow each other, because there may be more of them than there may be calls within each other.
func (c *cursor) negation() *part {
	n := 0
	for c.take(not) {
		n++
	}
	p := c.operation(comparisonLevel)
	for range n {
		p = c.node(kindOp, not, p)
	}
	return p
}

// levelOf returns how strongly a token binds as an operator, 0 where it is none.
func levelOf(t api.Token, level func(op string) int) int {
	if t.Kind != kindOp {
		return 0
	}
	return level(t.Text)
}

func (c *cursor) operand() *part {
	if c.nested > mostNested {
		c.fail()
	}
	c.nested++
	p := c.operandOf(c.next())
	c.nested--
	return p
}

// operandOf reads an operand by its first token.
func (c *cursor) operandOf(t api.Token) *part {
	switch {
	case t.Kind == kindName && c.take("("):
		return c.item(t.Text)
	case isOp(t, "("):
		p := c.whole()
		c.want(")")
		return p
	case isOp(t, "["):
		kids := c.kids(c.whole)
		c.want("]")
		return c.node(kindList, "", kids...)
	}
	return c.leaf(t)
}

func (c *cursor) item(name string) *part {
	var kids []*part
	if !c.is(")") {
		kids = c.kids(c.subscript)
	}
	c.want(")")
	return c.node(kindItem, name, kids...)
}

func (c *cursor) kids(one func() *part) []*part {
	kids := []*part{one()}
	for c.take(",") {
		kids = append(kids, one())
	}
	if len(kids) > mostKids {
		c.fail()
	}
	return kids
}

func (c *cursor) subscript() *part {
	missing := c.node(kindNone, "")
	lo, hi, step := missing, missing, missing
	if !c.is(":") {
		lo = c.whole()
	}
	if !c.take(":") {
		return lo
	}
	if !c.is(":") && !c.is(",") && !c.is(")") {
		hi = c.whole()
	}
	if c.take(":") {
		step = c.whole()
	}
	return c.node(kindTriple, "", lo, hi, step)
}

// leaf returns the expression of one token.
func (c *cursor) leaf(t api.Token) *part {
	p := c.node(t.Kind, "")
	switch t.Kind {
	case kindReal, kindText, kindName:
		p.expr.Text = t.Text
	case kindLogical:
		if t.Text == isTrue {
			p.expr.N = 1
		}
	case kindInt:
		p.expr.N = c.number(t)
	default:
		c.fail()
	}
	return p
}

func (c *cursor) number(t api.Token) int {
	n := value(t)
	if n > api.MaxInt {
		c.fail()
	}
	return n
}

// value returns the value of an int, whose few digits fit into 64 bits.
func value(t api.Token) int {
	n, _ := strconv.ParseInt(t.Text, 10, 64)
	return int(n)
}
