package tree

import "quadrat/api"

// action reads a statement that is no block, and holds no other one.
func (c *cursor) action(at int) api.Stmt {
	s := api.Stmt{At: at}
	switch {
	case c.assigns():
		s.Kind = doesAssign
		s.Exprs = c.assignment()
	case c.takes("where"):
		s.Kind = doesWhere
		s.Exprs = append(c.condition(), c.assignment()...)
	case c.takes("call"):
		s.Kind = doesCall
		s.Name = c.name()
		s.Exprs = c.arguments()
	case c.takes("print"):
		s.Kind = doesPrint
		c.want("*")
		for c.take(",") {
			s.Exprs = append(s.Exprs, c.expression())
		}
	default:
		s.Kind = c.wordAlone()
	}
	return s
}

// wordAlone reads a statement that is one word.
func (c *cursor) wordAlone() string {
	word := c.name()
	switch word {
	case "stop", "exit", "cycle":
		return word
	case "continue":
		return doesNothing
	}
	c.fail()
	return ""
}

// assignment reads a target and its value.
func (c *cursor) assignment() []api.Expr {
	if c.peek().Kind != kindName {
		c.fail()
	}
	target := c.operand().expr
	c.want("=")
	return []api.Expr{target, c.expression()}
}

// condition reads a mask or the condition of an if.
func (c *cursor) condition() []api.Expr {
	c.want("(")
	e := c.expression()
	c.want(")")
	return []api.Expr{e}
}

func (c *cursor) arguments() (l []api.Expr) {
	c.inBrackets(func() { l = append(l, c.expression()) })
	return l
}

// do reads a do's beginning; the label is that of its continue, or 0.
func (c *cursor) do(at int) (s api.Stmt, label int) {
	c.skip(1)
	s = api.Stmt{Kind: doesDo, At: at}
	if c.leads("concurrent") && len(c.tokens) > 1 && isOp(c.tokens[1], "(") {
		c.skip(1)
		s.Kind = doesLoop
		c.want("(")
		c.turns(&s, ":")
		c.want(")")
		return s, 0
	}
	if c.peek().Kind == kindInt {
		label = c.label()
	}
	c.turns(&s, ",")
	return s, label
}

// label reads the label that a do's continue has. It may be greater than all labels; then no continue has it.
func (c *cursor) label() int {
	n := value(c.next())
	if n == 0 {
		c.fail()
	}
	return n
}

// turns reads the variable, and where it begins and ends; a step or a mask may follow.
func (c *cursor) turns(s *api.Stmt, between string) {
	s.Name = c.name()
	c.want("=")
	lo := c.expression()
	c.want(between)
	hi := c.expression()
	s.Exprs = []api.Expr{lo, hi}
	if c.take(",") {
		s.Exprs = append(s.Exprs, c.expression())
	}
}
