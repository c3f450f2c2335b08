package typing_test

import (
	"slices"

	"arbor/api"
	"arbor/drill"
)

// namesOf: of a schema's fields, and one that it does not have.
func namesOf(s api.Schema) []string {
	names := []string{"x"}
	for _, f := range s.Fields {
		names = append(names, f.Name)
	}
	return names
}

// leavesOf: every expression without kids, a literal of each type among them.
func leavesOf(s api.Schema) []api.Expr {
	leaves := []api.Expr{drill.Number(5), {Op: api.EBool, N: 1}, {Op: api.EBytes, S: "a"}, drill.Here()}
	for _, name := range namesOf(s) {
		leaves = append(leaves, drill.Field(name), api.Expr{Op: api.EHas, S: name})
	}
	return leaves
}

// opsOf: the operations with kids.
func opsOf() []int {
	var ops []int
	for op := range exprBook {
		if wantsOf(op) != nil {
			ops = append(ops, op)
		}
	}
	slices.Sort(ops)
	return ops
}

// over: every expression whose kids are out of a list is handed on.
func over(kids []api.Expr, each func(api.Expr)) {
	for _, op := range opsOf() {
		drill.Scripts(kids, len(wantsOf(op)), func(script []api.Expr) {
			each(drill.Tree(op, slices.Clone(script)...))
		})
	}
}

// kindsOf: for everything that an expression can be, and every error that it can have, one with kids and one without, as far as there are such. Whatever has these as its kids has met all that kids can be.
func kindsOf(s api.Schema) []api.Expr {
	var found []api.Expr
	type mark struct {
		is    string
		errno api.Errno
		leaf  bool
	}
	seen := map[mark]int{}
	note := func(e api.Expr) {
		is, errno := bookExpr(s, e)
		m := mark{is, errno, len(e.Kids) == 0}
		if seen[m]++; seen[m] == 1 {
			found = append(found, e)
		}
	}
	leaves := leavesOf(s)
	for _, leaf := range leaves {
		note(leaf)
	}
	over(leaves, note)
	return found
}
