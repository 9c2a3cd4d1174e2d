package tree

import (
	"slices"

	"quadrat/api"
	"quadrat/token"
)

// isExpr reports whether an expression can come of a text, with at most so many levels.
func isExpr(e api.Expr, levels int) bool {
	if levels < 1 || e.N != 0 && e.Kind != kindInt && e.Kind != kindLogical {
		return false
	}
	areExprs := func() bool {
		return !slices.ContainsFunc(e.Kids, func(k api.Expr) bool { return !isExpr(k, levels-1) })
	}
	switch e.Kind {
	case kindItem:
		return token.IsName(e.Text) && len(e.Kids) <= mostKids && !slices.ContainsFunc(e.Kids, func(k api.Expr) bool { return !isSubscript(k, levels-1) })
	case kindList:
		return e.Text == "" && len(e.Kids) >= 1 && len(e.Kids) <= mostKids && areExprs()
	case kindOp:
		return levelOfOp(e) > 0 && areExprs()
	}
	return len(e.Kids) == 0 && isLeaf(e)
}

// levelOfOp returns how strongly the operator of an expression binds, 0 if it has none for its operands.
func levelOfOp(e api.Expr) int {
	switch len(e.Kids) {
	case 1:
		return unaryLevel(e.Text)
	case 2:
		return binaryLevel(e.Text)
	}
	return 0
}

func isLeaf(e api.Expr) bool {
	switch e.Kind {
	case kindReal, kindText, kindName:
		return token.Valid(api.Token{Kind: e.Kind, Text: e.Text})
	case kindInt:
		return e.Text == "" && e.N >= 0 && e.N <= api.MaxInt
	case kindLogical:
		return e.Text == "" && (e.N == 0 || e.N == 1)
	}
	return false
}

func isSubscript(e api.Expr, levels int) bool {
	if e.Kind != kindTriple {
		return isExpr(e, levels)
	}
	return levels > 1 && isTriple(e) && !slices.ContainsFunc(e.Kids, func(k api.Expr) bool { return !isMissing(k) && !isExpr(k, levels-1) })
}

// isTriple reports whether an expression has what a triple has, but for its Kids.
func isTriple(e api.Expr) bool {
	return e.Kind == kindTriple && e.Text == "" && e.N == 0 && len(e.Kids) == 3
}

func isMissing(e api.Expr) bool {
	return SameExpr(e, api.Expr{Kind: kindNone})
}

func isBound(e api.Expr) bool {
	return isTriple(e) && isExpr(e.Kids[0], api.MaxDeep) && (isMissing(e.Kids[1]) || isExpr(e.Kids[1], api.MaxDeep)) && isMissing(e.Kids[2])
}

// parts is what a kind of statements has: a name or none, how many expressions, which one of these is a target (or none), and blocks.
type parts struct {
	named       bool
	least, most int
	target      int
	body, other bool
}

// anyNumber of expressions is more than a statement's text has room for.
const anyNumber = api.MaxText

const noTarget = -1

func partsOf(kind string) (p parts, ok bool) {
	p.target = noTarget
	switch kind {
	case doesAssign:
		p.least, p.most, p.target = 2, 2, 0
	case doesWhere:
		p.least, p.most, p.target = 3, 3, 1
	case doesDo, doesLoop:
		p.named, p.least, p.most, p.body = true, 2, 3, true
	case doesIf:
		p.least, p.most, p.body, p.other = 1, 1, true, true
	case doesCall:
		p.named, p.most = true, anyNumber
	case doesPrint:
		p.most = anyNumber
	case doesStop, doesExit, doesCycle, doesNothing:
	default:
		return parts{}, false
	}
	return p, true
}

// isStmt reports whether a statement can come of a text, within blocks of which there may be so many more.
func isStmt(s api.Stmt, blocks int) bool {
	p, ok := partsOf(s.Kind)
	if !ok || p.named != (s.Name != "") || p.named && !token.IsName(s.Name) || len(s.Exprs) < p.least || len(s.Exprs) > p.most {
		return false
	}
	for i, e := range s.Exprs {
		if !isExpr(e, api.MaxDeep) || i == p.target && e.Kind != kindName && e.Kind != kindItem {
			return false
		}
	}
	if !p.body && len(s.Body) > 0 || !p.other && len(s.Other) > 0 {
		return false
	}
	return !p.body || blocks > 0 && isBlock(s.Body, blocks-1) && isBlock(s.Other, blocks-1)
}

func isBlock(l []api.Stmt, blocks int) bool {
	return !slices.ContainsFunc(l, func(s api.Stmt) bool { return !isStmt(s, blocks) })
}

// isFile reports whether a file can come of statements, but for how many they are.
func isFile(f api.File) bool {
	if len(f.Units) == 0 || slices.ContainsFunc(f.Units, func(u api.Unit) bool { return !isUnit(u, false) }) {
		return false
	}
	return !slices.ContainsFunc(written(f, shortest), isTooLong)
}

// isTooLong reports whether no statement has such a long text.
func isTooLong(text string) bool {
	return len(text) > api.MaxText
}

func isUnit(u api.Unit, contained bool) bool {
	noName := func(name string) bool { return !token.IsName(name) }
	if noName(u.Name) || slices.ContainsFunc(u.Args, noName) || !isUnitKind(u, contained) {
		return false
	}
	if slices.ContainsFunc(u.Uses, func(x api.Use) bool { return !isUse(x) }) || slices.ContainsFunc(u.Decls, func(d api.Decl) bool { return !isDecl(d) }) {
		return false
	}
	return isBlock(u.Body, api.MaxDeep) && !slices.ContainsFunc(u.Contains, func(x api.Unit) bool { return contained || !isUnit(x, true) })
}

// isUnitKind reports whether a unit of this kind may stand there, and has no more than the kind has.
func isUnitKind(u api.Unit, contained bool) bool {
	switch u.Kind {
	case kindModule:
		return !contained && len(u.Args) == 0 && len(u.Body) == 0
	case kindProgram:
		return !contained && len(u.Args) == 0
	}
	return u.Kind == kindSubroutine
}

func isUse(u api.Use) bool {
	return token.IsName(u.Module) && (!u.Only || len(u.Names) > 0) &&
		!slices.ContainsFunc(u.Names, func(r api.Rename) bool { return !token.IsName(r.Local) || !token.IsName(r.Name) })
}

func isDecl(d api.Decl) bool {
	if d.Kind < api.KInt || d.Kind > api.KReal8 || !token.IsName(d.Name) || len(d.Bounds) > api.MaxRank || len(d.Init) > 1 {
		return false
	}
	return !slices.ContainsFunc(d.Bounds, func(b api.Expr) bool { return !isBound(b) }) && !slices.ContainsFunc(d.Init, func(e api.Expr) bool { return !isExpr(e, api.MaxDeep) })
}
