package typing_test

import (
	"slices"
	"strings"

	"arbor/api"
	"arbor/drill"
)

// Of all kinds of fields no schema has room: these two have them together.
const (
	intsSchema  = "n:int,m:int?,on:bool,off:bool?,tag:bytes?"
	bytesSchema = "tag:bytes?,off:bool?,b:bytes,n:int,on:bool"
)

func tree(op int, kids ...api.Expr) api.Expr { return api.Expr{Op: op, Kids: kids} }
func number(n int64) api.Expr                { return api.Expr{Op: api.EInt, N: n} }
func field(name string) api.Expr             { return api.Expr{Op: api.EField, S: name} }
func here() api.Expr                         { return api.Expr{Op: api.EHere} }

func nested(op, times int, e api.Expr) api.Expr {
	for range times {
		e = tree(op, e)
	}
	return e
}

func set(name string, e api.Expr) api.Stmt {
	return api.Stmt{Op: api.SSet, Field: name, Exprs: []api.Expr{e}}
}

func choice(e api.Expr, then, otherwise []api.Stmt) api.Stmt {
	return api.Stmt{Op: api.SIf, Exprs: []api.Expr{e}, Then: then, Else: otherwise}
}

// namesOf: of a schema's fields, and one that it does not have.
func namesOf(s api.Schema) []string {
	names := []string{"x"}
	for _, f := range s.Fields {
		names = append(names, f.Name)
	}
	return names
}

// leavesOf: every expression without kids, a literal of each type among them.
func leavesOf(s api.Schema) []api.Expr {
	leaves := []api.Expr{number(5), {Op: api.EBool, N: 1}, {Op: api.EBytes, S: "a"}, here()}
	for _, name := range namesOf(s) {
		leaves = append(leaves, field(name), api.Expr{Op: api.EHas, S: name})
	}
	return leaves
}

// opsOf: the operations with kids.
func opsOf() []int {
	var ops []int
	for op := range exprBook {
		if wantsOf(op) != nil {
			ops = append(ops, op)
		}
	}
	slices.Sort(ops)
	return ops
}

// over: every expression whose kids are out of a list is handed on.
func over(kids []api.Expr, each func(api.Expr)) {
	for _, op := range opsOf() {
		drill.Scripts(kids, len(wantsOf(op)), func(script []api.Expr) {
			each(tree(op, slices.Clone(script)...))
		})
	}
}

// kindsOf: for everything that an expression can be, and every error that it can have, one with kids and one without, as far as there are such. Whatever has these as its kids has met all that kids can be.
func kindsOf(s api.Schema) []api.Expr {
	var found []api.Expr
	type mark struct {
		is    string
		errno api.Errno
		leaf  bool
	}
	seen := map[mark]int{}
	note := func(e api.Expr) {
		is, errno := bookExpr(s, e)
		m := mark{is, errno, len(e.Kids) == 0}
		if seen[m]++; seen[m] == 1 {
			found = append(found, e)
		}
	}
	leaves := leavesOf(s)
	for _, leaf := range leaves {
		note(leaf)
	}
	over(leaves, note)
	return found
}

// pickOne: any of a list.
func pickOne[Part any](numbers *drill.Numbers, list []Part) Part {
	return list[numbers.Below(len(list))]
}

// fieldsOf: the schema's fields of a manner and a type, as in "optional Int".
func fieldsOf(s api.Schema, is string) []api.Expr {
	var list []api.Expr
	for _, f := range s.Fields {
		if got, _ := bookField(s, f.Name); got == is {
			list = append(list, field(f.Name))
		}
	}
	return list
}

// fitting: an expression of at most that depth that is plain and of a type. What it is made of, the book's rows tell.
func fitting(numbers *drill.Numbers, s api.Schema, of string, deep int) api.Expr {
	op := pickOne(numbers, opsOf())
	if deep <= 1 || numbers.Below(6) == 0 {
		return fittingLeaf(numbers, s, of)
	}
	is := exprBook[op][1]
	if !strings.HasSuffix(is, of) && !strings.HasSuffix(is, "1st") && !strings.HasSuffix(is, "2nd") {
		return fitting(numbers, s, of, deep)
	}
	shared := pickOne(numbers, []string{"Int", "Bytes"}) // what is compared
	if op == api.EEq || op == api.ENe {
		shared = pickOne(numbers, []string{"Int", "Bool", "Bytes"})
	}
	if op == api.EElse || op == api.EPick {
		shared = of
	}
	e := tree(op)
	for _, want := range wantsOf(op) {
		manner, kidOf, _ := strings.Cut(want, " ")
		if !slices.Contains([]string{"Int", "Bool", "Bytes"}, kidOf) {
			kidOf = shared
		}
		if manner == "plain" {
			e.Kids = append(e.Kids, fitting(numbers, s, kidOf, deep-1))
		} else if list := fieldsOf(s, "optional "+kidOf); len(list) > 0 {
			e.Kids = append(e.Kids, pickOne(numbers, list))
		} else {
			return fittingLeaf(numbers, s, of)
		}
	}
	return e
}

func fittingLeaf(numbers *drill.Numbers, s api.Schema, of string) api.Expr {
	var right []api.Expr
	for _, leaf := range leavesOf(s) {
		if is, _ := bookExpr(s, leaf); is == "plain "+of {
			right = append(right, leaf)
		}
	}
	return pickOne(numbers, right)
}

// fittingStmt: a statement of at most that depth, 2 or more, that fits.
func fittingStmt(numbers *drill.Numbers, s api.Schema, deep int) api.Stmt {
	f := pickOne(numbers, s.Fields)
	switch op := 1 + numbers.Below(api.SIf); op {
	case api.SSet:
		if f.Optional && numbers.Below(3) == 0 {
			return set(f.Name, pickOne(numbers, fieldsOf(s, "optional "+typeNames[f.Type])))
		}
		return set(f.Name, fitting(numbers, s, typeNames[f.Type], deep-1))
	case api.SAdd, api.SMin, api.SMax:
		if f.Type == api.Int {
			return api.Stmt{Op: op, Field: f.Name, Exprs: []api.Expr{fitting(numbers, s, "Int", deep-1)}}
		}
	case api.SClear:
		if f.Optional {
			return api.Stmt{Op: op, Field: f.Name}
		}
	case api.SNew, api.SDelete:
		return api.Stmt{Op: op}
	case api.SIf:
		st := choice(fitting(numbers, s, "Bool", deep-1), nil, nil)
		if deep > 2 {
			st.Then, st.Else = fittingProgram(numbers, s, deep-1), fittingProgram(numbers, s, deep-1)
		}
		return st
	}
	return fittingStmt(numbers, s, deep)
}

// fittingProgram: a program that fits, with up to three statements in each block.
func fittingProgram(numbers *drill.Numbers, s api.Schema, deep int) []api.Stmt {
	var p []api.Stmt
	for range numbers.Below(4) {
		p = append(p, fittingStmt(numbers, s, deep))
	}
	return p
}

// spoil: another expression in the place of one: a leaf, or what fits somewhere else.
func spoil(numbers *drill.Numbers, s api.Schema, e *api.Expr) {
	if numbers.Below(2) == 0 {
		*e = pickOne(numbers, leavesOf(s))
		return
	}
	*e = fitting(numbers, s, pickOne(numbers, []string{"Int", "Bool", "Bytes"}), 3)
}
