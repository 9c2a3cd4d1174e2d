package tree

import "quadrat/api"

// written returns the statements of a file.
func written(f api.File, s style) []string {
	w := newWriter(s)
	for _, u := range f.Units {
		w.unit(u)
	}
	return w.done
}

func (w *writer) unit(u api.Unit) {
	w.put(u.Kind, " ", u.Name)
	if len(u.Args) > 0 {
		w.put("(")
		w.separated(len(u.Args), func(i int) { w.put(u.Args[i]) })
		w.put(")")
	}
	w.line()
	for _, x := range u.Uses {
		w.use(x)
	}
	if u.None {
		w.line("implicit none")
	}
	for _, d := range u.Decls {
		w.decl(d)
	}
	w.block(u.Body)
	if len(u.Contains) > 0 {
		w.line("contains")
	}
	for _, x := range u.Contains {
		w.unit(x)
	}
	w.line("end ", u.Kind, " ", u.Name)
}

func (w *writer) use(u api.Use) {
	w.put("use ", u.Module)
	if len(u.Names) > 0 {
		w.comma()
	}
	if u.Only {
		w.put("only:", w.gap)
	}
	w.separated(len(u.Names), func(i int) {
		r := u.Names[i]
		w.put(r.Local)
		if !u.Only || r.Local != r.Name {
			w.sign("=>")
			w.put(r.Name)
		}
	})
	w.line()
}

func (w *writer) decl(d api.Decl) {
	w.put(w.typeOf(d.Kind))
	if d.Parameter {
		w.comma()
		w.put("parameter")
	}
	w.sign("::")
	w.put(d.Name)
	if len(d.Bounds) > 0 {
		w.put("(")
		w.separated(len(d.Bounds), func(i int) { w.bound(d.Bounds[i]) })
		w.put(")")
	}
	for _, e := range d.Init {
		w.sign("=")
		w.expr(e)
	}
	w.line()
}

func (w *writer) typeOf(kind int) string {
	switch kind {
	case api.KInt:
		return "integer"
	case api.KLogical:
		return "logical"
	case api.KReal8:
		return "real(8)"
	}
	if w.style == shortest {
		return "real"
	}
	return "real(4)"
}

// bound writes lo and hi of a dimension; a lo of 1 may be left out.
func (w *writer) bound(e api.Expr) {
	one := e.Kids[0].Kind == kindInt && e.Kids[0].N == 1
	missing := e.Kids[1].Kind == kindNone
	switch {
	case w.style == plain || !one:
		w.triple(e)
	case missing:
		w.put(":")
	default:
		w.expr(e.Kids[1])
	}
}

func (w *writer) block(l []api.Stmt) {
	for _, s := range l {
		w.stmt(s)
	}
}

func (w *writer) stmt(s api.Stmt) {
	switch s.Kind {
	case doesAssign:
		w.assignment(s.Exprs)
	case doesWhere:
		w.put("where", w.gap)
		w.bracketed(s.Exprs[0])
		w.put(w.gap)
		w.assignment(s.Exprs[1:])
	case doesDo, doesLoop:
		w.do(s)
	case doesIf:
		w.choice(s)
	case doesCall:
		w.call(s)
	case doesPrint:
		w.put("print", w.gap, "*")
		for _, e := range s.Exprs {
			w.comma()
			w.expr(e)
		}
		w.line()
	case doesNothing:
		w.line("continue")
	default:
		w.line(s.Kind)
	}
}

func (w *writer) assignment(l []api.Expr) {
	w.expr(l[0])
	w.sign("=")
	w.expr(l[1])
	w.line()
}

func (w *writer) do(s api.Stmt) {
	if s.Kind == doesDo {
		w.put("do ", s.Name)
		w.sign("=")
		w.exprs(s.Exprs)
	} else {
		w.put("do concurrent", w.gap, "(", s.Name)
		w.sign("=")
		w.expr(s.Exprs[0])
		w.put(":")
		w.exprs(s.Exprs[1:])
		w.put(")")
	}
	w.line()
	w.block(s.Body)
	w.line("end do")
}

func (w *writer) choice(s api.Stmt) {
	w.put("if", w.gap)
	w.bracketed(s.Exprs[0])
	if w.style == shortest && len(s.Other) == 0 && isBrief(s.Body) {
		w.block(s.Body)
		return
	}
	w.line(w.gap, thenWord)
	w.block(s.Body)
	if len(s.Other) > 0 {
		w.line("else")
		w.block(s.Other)
	}
	w.line("end if")
}

// isBrief reports whether a block is one assignment that is shorter than the word which it makes needless.
func isBrief(l []api.Stmt) bool {
	if len(l) != 1 || l[0].Kind != doesAssign {
		return false
	}
	w := newWriter(shortest)
	w.assignment(l[0].Exprs)
	return len(w.done[0]) < len(thenWord)
}

func (w *writer) call(s api.Stmt) {
	w.put("call ", s.Name)
	if len(s.Exprs) > 0 {
		w.put("(")
		w.exprs(s.Exprs)
		w.put(")")
	}
	w.line()
}
