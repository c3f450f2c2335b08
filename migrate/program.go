package migrate

import (
	"slices"

	"arbor/api"
)

// The programs here fit their schemas.

// rewritten: a program in memory of its own, with some statements in the place of each, and an expression in the place of each. Of what stands in one of them the places are filled already.
func rewritten(p []api.Stmt, stmt func(api.Stmt) []api.Stmt, expr func(api.Expr) api.Expr) []api.Stmt {
	var list []api.Stmt
	for _, st := range p {
		st.Exprs = rewrittenExprs(st.Exprs, expr)
		st.Then, st.Else = rewritten(st.Then, stmt, expr), rewritten(st.Else, stmt, expr)
		list = append(list, stmt(st)...)
	}
	return list
}

func rewrittenExprs(list []api.Expr, expr func(api.Expr) api.Expr) []api.Expr {
	var news []api.Expr
	for _, e := range list {
		e.Kids = rewrittenExprs(e.Kids, expr)
		news = append(news, expr(e))
	}
	return news
}

// itself: the statement, in the place of itself.
func itself(st api.Stmt) []api.Stmt { return []api.Stmt{st} }

// itselfExpr: likewise the expression.
func itselfExpr(e api.Expr) api.Expr { return e }

func copied(p []api.Stmt) []api.Stmt {
	return rewritten(p, itself, itselfExpr)
}

// withoutField: all statements of the field are left out.
func withoutField(p []api.Stmt, name string) []api.Stmt {
	left := func(st api.Stmt) []api.Stmt {
		if st.Field == name {
			return nil
		}
		return itself(st)
	}
	return rewritten(p, left, itselfExpr)
}

// withNewName: the field is called otherwise.
func withNewName(p []api.Stmt, name, to string) []api.Stmt {
	stmt := func(st api.Stmt) []api.Stmt {
		if st.Field == name {
			st.Field = to
		}
		return itself(st)
	}
	expr := func(e api.Expr) api.Expr {
		if names(e, name) {
			e.S = to
		}
		return e
	}
	return rewritten(p, stmt, expr)
}

// withPresentField: the field, which has become optional, is present in each record that is made, and is read as one that might be absent.
func withPresentField(p []api.Stmt, f api.Field) []api.Stmt {
	stmt := func(st api.Stmt) []api.Stmt {
		if st.Op != api.SNew {
			return itself(st)
		}
		notHere := api.Expr{Op: api.ENot, Kids: []api.Expr{{Op: api.EHere}}}
		return itself(api.Stmt{Op: api.SIf, Exprs: []api.Expr{notHere}, Then: []api.Stmt{st, set(f.Name, zeroExpr(f.Type))}})
	}
	expr := func(e api.Expr) api.Expr {
		if isField(e, f.Name) {
			return orZero(e, f.Type)
		}
		return e
	}
	return rewritten(p, stmt, expr)
}

// withPlainField: where the field at that place of the schema, which has become plain, became absent, it becomes zero. (As it is plain by now, f = f is not taken for one that copies an optional field.)
func withPlainField(p []api.Stmt, s api.Schema, at int) []api.Stmt {
	f := s.Fields[at]
	stmt := func(st api.Stmt) []api.Stmt {
		switch {
		case st.Field != f.Name:
		case st.Op == api.SClear:
			return itself(set(f.Name, zeroExpr(f.Type)))
		case st.Op == api.SSet && isOptionalField(s, st.Exprs[0]):
			return itself(set(f.Name, orZero(st.Exprs[0], f.Type)))
		}
		return itself(st)
	}
	return rewritten(p, stmt, itselfExpr)
}

// needsAbsence: does a program do, where the field is absent, what it could not do if it were zero there?
func needsAbsence(p []api.Stmt, name string) bool {
	return anyStmt(p, func(st api.Stmt) bool {
		if st.Field == name && (st.Op == api.SMin || st.Op == api.SMax) {
			return true
		}
		toItself := st.Field == name && st.Op == api.SSet && isField(st.Exprs[0], name)
		return !toItself && anyNames(st.Exprs, name)
	})
}

// readsField: does the field stand in an expression?
func readsField(p []api.Stmt, name string) bool {
	return anyStmt(p, func(st api.Stmt) bool { return anyNames(st.Exprs, name) })
}

// anyStmt: does it hold for one of the statements, at whatever depth?
func anyStmt(p []api.Stmt, holds func(api.Stmt) bool) bool {
	return slices.ContainsFunc(p, func(st api.Stmt) bool {
		return holds(st) || anyStmt(st.Then, holds) || anyStmt(st.Else, holds)
	})
}

// anyNames: does the field stand in one of the expressions, at whatever depth?
func anyNames(list []api.Expr, name string) bool {
	return slices.ContainsFunc(list, func(e api.Expr) bool { return names(e, name) || anyNames(e.Kids, name) })
}

// names: is an expression of the field, by its value or by whether it is present?
func names(e api.Expr, name string) bool {
	return isField(e, name) || e.Op == api.EHas && e.S == name
}

func isField(e api.Expr, name string) bool {
	return e.Op == api.EField && e.S == name
}

func isOptionalField(s api.Schema, e api.Expr) bool {
	return e.Op == api.EField && s.Fields[placeOf(s, e.S)].Optional
}

func set(name string, e api.Expr) api.Stmt {
	return api.Stmt{Op: api.SSet, Field: name, Exprs: []api.Expr{e}}
}

// orZero: where an expression is absent, the zero of the type.
func orZero(e api.Expr, of int) api.Expr {
	return api.Expr{Op: api.EElse, Kids: []api.Expr{e, zeroExpr(of)}}
}

// zeroExpr: the literal of a type's zero.
func zeroExpr(of int) api.Expr {
	switch of {
	case api.Int:
		return api.Expr{Op: api.EInt}
	case api.Bool:
		return api.Expr{Op: api.EBool}
	}
	return api.Expr{Op: api.EBytes}
}
