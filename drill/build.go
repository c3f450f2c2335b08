package drill

import "arbor/api"

// Tree: an operation over kids.
func Tree(op int, kids ...api.Expr) api.Expr { return api.Expr{Op: op, Kids: kids} }

// Number: the literal of an int.
func Number(n int64) api.Expr { return api.Expr{Op: api.EInt, N: n} }

// Field: a field by its name.
func Field(name string) api.Expr { return api.Expr{Op: api.EField, S: name} }

// Here: is there a record?
func Here() api.Expr { return api.Expr{Op: api.EHere} }

// Nested: an operation of one kid, so many times over an expression.
func Nested(op, times int, e api.Expr) api.Expr {
	for range times {
		e = Tree(op, e)
	}
	return e
}

// Change: a field becomes an expression, or is changed by it.
func Change(op int, name string, e api.Expr) api.Stmt {
	return api.Stmt{Op: op, Field: name, Exprs: []api.Expr{e}}
}

// Choice: an if.
func Choice(e api.Expr, then, otherwise []api.Stmt) api.Stmt {
	return api.Stmt{Op: api.SIf, Exprs: []api.Expr{e}, Then: then, Else: otherwise}
}
