package tree

import (
	"slices"

	"quadrat/api"
)

func sameUnit(a, b api.Unit) bool {
	return a.Kind == b.Kind && a.Name == b.Name && a.None == b.None && slices.Equal(a.Args, b.Args) &&
		slices.EqualFunc(a.Uses, b.Uses, sameUse) && slices.EqualFunc(a.Decls, b.Decls, sameDecl) &&
		slices.EqualFunc(a.Body, b.Body, sameStmt) && slices.EqualFunc(a.Contains, b.Contains, sameUnit)
}

func sameUse(a, b api.Use) bool {
	return a.Module == b.Module && a.Only == b.Only && slices.Equal(a.Names, b.Names)
}

func sameDecl(a, b api.Decl) bool {
	return a.Kind == b.Kind && a.Name == b.Name && a.Parameter == b.Parameter &&
		slices.EqualFunc(a.Bounds, b.Bounds, SameExpr) && slices.EqualFunc(a.Init, b.Init, SameExpr)
}

func sameStmt(a, b api.Stmt) bool {
	return a.Kind == b.Kind && a.Name == b.Name && slices.EqualFunc(a.Exprs, b.Exprs, SameExpr) &&
		slices.EqualFunc(a.Body, b.Body, sameStmt) && slices.EqualFunc(a.Other, b.Other, sameStmt)
}
