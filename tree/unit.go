package tree

import "quadrat/api"

func (p *parser) file() api.File {
	f := api.File{Units: []api.Unit{p.unit(false)}}
	for len(p.lines) > 0 {
		f.Units = append(f.Units, p.unit(false))
	}
	return f
}

// unit reads a unit; one that is contained contains none itself.
func (p *parser) unit(contained bool) api.Unit {
	u := p.heading()
	for p.now.begins("use") {
		u.Uses = append(u.Uses, p.now.use())
		p.end(0)
	}
	if p.now.begins("implicit") {
		u.None = true
		p.want("implicit", "none")
	}
	for p.now.beginsWithOne("integer", "logical", "real") >= 0 {
		u.Decls = append(u.Decls, p.now.declarations()...)
		p.end(0)
	}
	if u.Kind != kindModule {
		u.Body = p.block(0, 0)
	}
	if !contained && p.now.begins("contains") {
		p.want("contains")
		for p.now.begins("subroutine") {
			u.Contains = append(u.Contains, p.unit(true))
		}
	}
	p.ending(u)
	return u
}

func (p *parser) heading() api.Unit {
	u := api.Unit{At: p.line()}
	c := p.now
	switch {
	case c.takes(kindModule):
		u.Kind = kindModule
	case c.takes(kindProgram):
		u.Kind = kindProgram
	case c.takes(kindSubroutine):
		u.Kind = kindSubroutine
	default:
		p.misplaced()
		return u
	}
	u.Name = c.name()
	if u.Kind == kindSubroutine {
		u.Args = c.dummies()
	}
	p.end(0)
	return u
}

// ending reads a unit's end, which may tell what it ends.
func (p *parser) ending(u api.Unit) {
	c := p.now
	if !c.takes("end") {
		c.fail()
	}
	if len(c.tokens) > 0 && !c.isAll(u.Kind) && !c.isAll(u.Kind, u.Name) {
		c.fail()
	}
	c.skip(len(c.tokens))
	p.end(0)
}

func (c *cursor) dummies() (l []string) {
	c.inBrackets(func() { l = append(l, c.name()) })
	return l
}

func (c *cursor) use() api.Use {
	c.skip(1)
	u := api.Use{Module: c.name()}
	if !c.take(",") {
		return u
	}
	if c.leads("only") && len(c.tokens) > 1 && isOp(c.tokens[1], ":") {
		c.skip(2)
		u.Only = true
	}
	c.several(func() { u.Names = append(u.Names, c.rename(u.Only)) })
	return u
}

// rename reads a name as it is called here, and as it is called there. Just where only these are used both may be one.
func (c *cursor) rename(only bool) api.Rename {
	r := api.Rename{Local: c.name()}
	if only && !c.is("=>") {
		r.Name = r.Local
		return r
	}
	c.want("=>")
	r.Name = c.name()
	return r
}

// declarations reads a statement that declares several names.
func (c *cursor) declarations() []api.Decl {
	kind := c.kind()
	parameter := c.take(",")
	if parameter && c.name() != "parameter" {
		c.fail()
	}
	c.want("::")
	var l []api.Decl
	c.several(func() {
		d := api.Decl{Kind: kind, Parameter: parameter}
		d.Name = c.name()
		d.Bounds = c.bounds()
		if c.take("=") {
			d.Init = []api.Expr{c.expression()}
		}
		l = append(l, d)
	})
	return l
}

// kind reads the word of a type, and which one of the reals it is.
func (c *cursor) kind() int {
	switch c.name() {
	case "integer":
		return api.KInt
	case "logical":
		return api.KLogical
	}
	if !c.take("(") {
		return api.KReal4
	}
	bytes := c.next()
	c.want(")")
	switch bytes {
	case api.Token{Kind: kindInt, Text: "4"}:
		return api.KReal4
	case api.Token{Kind: kindInt, Text: "8"}:
		return api.KReal8
	}
	c.fail()
	return 0
}

func (c *cursor) bounds() []api.Expr {
	var l []api.Expr
	if !c.take("(") {
		return l
	}
	c.several(func() { l = append(l, c.bound()) })
	c.want(")")
	if len(l) > api.MaxRank {
		c.fail()
	}
	return l
}

// bound reads lo and hi of a dimension. It is no expression itself, so its triple is no level of one.
func (c *cursor) bound() api.Expr {
	one, missing := api.Expr{Kind: kindInt, N: 1}, api.Expr{Kind: kindNone}
	if c.take(":") {
		return triple(one, missing)
	}
	first := c.expression()
	switch {
	case !c.take(":"):
		return triple(one, first)
	case c.is(","), c.is(")"):
		return triple(first, missing)
	}
	return triple(first, c.expression())
}

func triple(lo, hi api.Expr) api.Expr {
	return api.Expr{Kind: kindTriple, Kids: []api.Expr{lo, hi, {Kind: kindNone}}}
}
