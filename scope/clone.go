package scope

import (
	"slices"

	"quadrat/api"
)

// A unit that is told is new in all its parts, which are shared with no one.

func cloneUnit(u api.Unit) api.Unit {
	u.Args = slices.Clone(u.Args)
	u.Uses = clones(u.Uses, cloneUse)
	u.Decls = clones(u.Decls, cloneDecl)
	u.Body = clones(u.Body, cloneStmt)
	u.Contains = clones(u.Contains, cloneUnit)
	return u
}

func cloneUse(u api.Use) api.Use {
	u.Names = slices.Clone(u.Names)
	return u
}

func cloneDecl(d api.Decl) api.Decl {
	d.Bounds = clones(d.Bounds, cloneExpr)
	d.Init = clones(d.Init, cloneExpr)
	return d
}

func cloneStmt(s api.Stmt) api.Stmt {
	s.Exprs = clones(s.Exprs, cloneExpr)
	s.Body = clones(s.Body, cloneStmt)
	s.Other = clones(s.Other, cloneStmt)
	return s
}

func cloneExpr(e api.Expr) api.Expr {
	e.Kids = clones(e.Kids, cloneExpr)
	return e
}

// clones returns a list of what becomes of each element of a list.
func clones[T any](l []T, clone func(T) T) []T {
	all := make([]T, len(l))
	for i, x := range l {
		all[i] = clone(x)
	}
	return all
}
