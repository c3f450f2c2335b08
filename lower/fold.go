package lower

import (
	"slices"

	"arbor/api"
	"arbor/meaning"
	"arbor/typing"
)

// Fold: an expression with the same value on every row, and no operation left whose operands are all literals.
func Fold(s api.Schema, e api.Expr) (api.Expr, api.Errno) {
	if _, _, misfit := typing.Type(s, e); misfit != api.OK {
		return api.Expr{}, misfit
	}
	return folded(s, e), api.OK
}

// folded: the folded form of an expression that fits the schema.
func folded(s api.Schema, e api.Expr) api.Expr {
	e.Kids = foldedExprs(s, e.Kids)
	if len(e.Kids) == 0 || slices.ContainsFunc(e.Kids, asksTheRow) {
		return e
	}
	// Literals are worth the same on every row: so on the one without a record, which every schema has.
	v, _ := meaning.Value(s, e, api.Row{})
	return literalOf(v)
}

func foldedExprs(s api.Schema, list []api.Expr) []api.Expr {
	var all []api.Expr
	for _, e := range list {
		all = append(all, folded(s, e))
	}
	return all
}

// asksTheRow: of an expression in folded form, which is a literal unless something in it asks the row.
func asksTheRow(e api.Expr) bool {
	return e.Op != api.EInt && e.Op != api.EBool && e.Op != api.EBytes
}

func literalOf(v api.Value) api.Expr {
	switch v.Kind {
	case api.Int:
		return api.Expr{Op: api.EInt, N: v.N}
	case api.Bool:
		return api.Expr{Op: api.EBool, N: v.N}
	}
	return api.Expr{Op: api.EBytes, S: v.S}
}

// foldedProgram: a program that fits the schema, with the folded form of each expression in its place.
func foldedProgram(s api.Schema, p []api.Stmt) []api.Stmt {
	var list []api.Stmt
	for _, st := range p {
		st.Exprs = foldedExprs(s, st.Exprs)
		st.Then, st.Else = foldedProgram(s, st.Then), foldedProgram(s, st.Else)
		list = append(list, st)
	}
	return list
}
