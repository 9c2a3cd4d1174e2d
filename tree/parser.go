package tree

import "quadrat/api"

// parser reads a file statement by statement. Once one is wrong it has no more statements, so that whatever reads by it ends.
type parser struct {
	lines []api.Line // the statements that are left
	now   *cursor    // reads the first one of them
	at    int        // the line of the statement that was read last, which is the one that is wrong
	err   api.Errno
}

func newParser(l []api.Line) *parser {
	p := &parser{}
	p.goOn(l)
	return p
}

// goOn goes to the first one of the statements that are left.
func (p *parser) goOn(left []api.Line) {
	p.lines = left
	p.now = &cursor{}
	if len(left) > 0 {
		p.now = newCursor(left[0].Text)
	}
}

// line returns the line of the statement at hand.
func (p *parser) line() int {
	if len(p.lines) == 0 {
		return 0
	}
	return p.lines[0].At
}

func (p *parser) fail(err api.Errno) {
	if p.err == api.OK {
		p.err = err
	}
	p.goOn(nil)
}

// end ends a statement, of which all must be read, and goes to the next one. The level is that of the blocks with which it is; without a statement at hand the file has ended too early.
func (p *parser) end(level int) {
	if len(p.lines) == 0 {
		p.fail(api.ErrForm)
		return
	}
	p.at = p.line()
	switch {
	case !p.now.over():
		p.fail(api.ErrForm)
	case p.now.deep || level > api.MaxDeep:
		p.fail(api.ErrLimit)
	default:
		p.goOn(p.lines[1:])
	}
}

// misplaced ends a statement that may not stand where it stands.
func (p *parser) misplaced() {
	p.now.fail()
	p.end(0)
}

// want passes over a statement that must be just these words.
func (p *parser) want(words ...string) {
	if !p.now.isAll(words...) {
		p.now.fail()
	}
	p.now.takes(words...)
	p.end(0)
}

// block reads the statements of a block, up to what cannot be one of them, or, if there is a label, to the continue that has it.
func (p *parser) block(level, label int) []api.Stmt {
	var body []api.Stmt
	for len(p.lines) > 0 && p.now.beginsWithOne("end", "else", "contains") < 0 {
		last := label > 0 && p.lines[0].Label == label && p.now.isAll("continue")
		body = append(body, p.statement(level))
		if last {
			return body
		}
	}
	if label > 0 {
		p.misplaced()
	}
	return body
}

// statement reads a statement, with the blocks that it has.
func (p *parser) statement(level int) api.Stmt {
	switch {
	case p.now.begins("do"):
		return p.do(level + 1)
	case p.now.begins("if"):
		return p.choice(level + 1)
	}
	s := p.now.action(p.line())
	p.end(level)
	return s
}

func (p *parser) do(level int) api.Stmt {
	s, label := p.now.do(p.line())
	p.end(level)
	s.Body = p.block(level, label)
	if label == 0 {
		p.want("end", "do")
	}
	return s
}

// choice reads an if. One of a single statement is a block as well.
func (p *parser) choice(level int) api.Stmt {
	s := api.Stmt{Kind: doesIf, At: p.line()}
	p.now.skip(1)
	s.Exprs = p.now.condition()
	if !p.now.isAll(thenWord) {
		s.Body = []api.Stmt{p.now.action(s.At)}
		p.end(level)
		return s
	}
	p.now.skip(1)
	p.end(level)
	s.Body = p.block(level, 0)
	if p.now.isAll("else") {
		p.want("else")
		s.Other = p.block(level, 0)
	}
	p.want("end", "if")
	return s
}
