package drill

import (
	"slices"

	"arbor/api"
)

// Copied: the same program in other memory. Each of its lists has room for one more, which is marked, so that Untouched can tell whether somebody wrote there.
func Copied(p []api.Stmt) []api.Stmt {
	list := make([]api.Stmt, 0, len(p)+1)
	for _, s := range p {
		s.Exprs, s.Then, s.Else = CopiedExprs(s.Exprs), Copied(s.Then), Copied(s.Else)
		list = append(list, s)
	}
	list[:len(p)+1][len(p)] = api.Stmt{Op: api.SDelete, Field: "spare"}
	return list
}

// CopiedExprs: likewise expressions.
func CopiedExprs(list []api.Expr) []api.Expr {
	kids := make([]api.Expr, 0, len(list)+1)
	for _, e := range list {
		e.Kids = CopiedExprs(e.Kids)
		kids = append(kids, e)
	}
	kids[:len(list)+1][len(list)] = api.Expr{Op: api.EField, S: "spare"}
	return kids
}

// Untouched: is the room behind each list of what Copied gave as it was?
func Untouched(p []api.Stmt) bool {
	last := p[:len(p)+1][len(p)]
	if last.Op != api.SDelete || last.Field != "spare" {
		return false
	}
	for _, s := range p {
		if !UntouchedExprs(s.Exprs) || !Untouched(s.Then) || !Untouched(s.Else) {
			return false
		}
	}
	return true
}

// UntouchedExprs: likewise of what CopiedExprs gave.
func UntouchedExprs(list []api.Expr) bool {
	last := list[:len(list)+1][len(list)]
	if last.Op != api.EField || last.S != "spare" {
		return false
	}
	for _, e := range list {
		if !UntouchedExprs(e.Kids) {
			return false
		}
	}
	return true
}

// Same: are two programs alike, part by part?
func Same(a, b []api.Stmt) bool {
	return slices.EqualFunc(a, b, func(a, b api.Stmt) bool {
		return a.Op == b.Op && a.Field == b.Field && slices.EqualFunc(a.Exprs, b.Exprs, SameExpr) && Same(a.Then, b.Then) && Same(a.Else, b.Else)
	})
}

// SameExpr: likewise two expressions.
func SameExpr(a, b api.Expr) bool {
	return a.Op == b.Op && a.N == b.N && a.S == b.S && slices.EqualFunc(a.Kids, b.Kids, SameExpr)
}

// Parts: all expressions and statements of a program, as they stand in it.
func Parts(p []api.Stmt) (exprs []*api.Expr, stmts []*api.Stmt) {
	for i := range p {
		stmts = append(stmts, &p[i])
		exprs = append(exprs, ExprParts(p[i].Exprs)...)
		for _, block := range [][]api.Stmt{p[i].Then, p[i].Else} {
			inExprs, inStmts := Parts(block)
			exprs, stmts = append(exprs, inExprs...), append(stmts, inStmts...)
		}
	}
	return exprs, stmts
}

// ExprParts: likewise of expressions, each ahead of its kids.
func ExprParts(list []api.Expr) (all []*api.Expr) {
	for i := range list {
		all = append(append(all, &list[i]), ExprParts(list[i].Kids)...)
	}
	return all
}
