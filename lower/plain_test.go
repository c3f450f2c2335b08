package lower_test

import (
	"slices"
	"testing"

	"arbor/api"
	"arbor/code"
	"arbor/drill"
	"arbor/lower"
	"arbor/syntax"
	"arbor/typing"
)

// leaves: expressions without kids of a type, one of each kind; of an optional type its fields.
func leaves(s api.Schema, of int, optional bool) []api.Expr {
	var list []api.Expr
	for _, f := range s.Fields {
		if f.Type == of && f.Optional == optional {
			list = append(list, drill.Field(f.Name))
		}
	}
	if optional {
		return list
	}
	values := drill.Values(of)
	list = append(list, drill.Literal(values[0]), drill.Literal(values[len(values)-1]))
	if of != api.Bool {
		return list
	}
	for _, f := range s.Fields {
		if f.Optional {
			list = append(list, api.Expr{Op: api.EHas, S: f.Name})
		}
	}
	return append(list, drill.Here())
}

// everyExpr: each operation over each choice of leaves, and the leaves themselves.
func everyExpr(s api.Schema, each func(e api.Expr, of int)) {
	for of := api.Int; of <= api.Bytes; of++ {
		for _, e := range leaves(s, of, false) {
			each(e, of)
		}
	}
	for _, sign := range drill.Signs() {
		of, _ := drill.TypeOf(sign.Is)
		var choices [][]api.Expr
		for _, letter := range sign.Kids {
			choices = append(choices, leaves(s, drillType(letter), letter < 'a'))
		}
		everyChoice(choices, nil, func(kids []api.Expr) {
			each(drill.Tree(sign.Op, slices.Clone(kids)...), of)
		})
	}
}

func drillType(letter rune) int {
	of, _ := drill.TypeOf(letter)
	return of
}

func everyChoice(choices [][]api.Expr, kids []api.Expr, each func([]api.Expr)) {
	if len(choices) == 0 {
		each(kids)
		return
	}
	for _, e := range choices[0] {
		everyChoice(choices[1:], append(kids, e), each)
	}
}

// changesBy: the statements that an expression of a type can stand in.
func changesBy(s api.Schema, e api.Expr, of int) []api.Stmt {
	var list []api.Stmt
	for _, f := range s.Fields {
		if f.Type != of {
			continue
		}
		list = append(list, drill.Change(api.SSet, f.Name, e))
		if of == api.Int {
			list = append(list, drill.Change(api.SAdd, f.Name, e), drill.Change(api.SMin, f.Name, e), drill.Change(api.SMax, f.Name, e))
		}
	}
	if of == api.Bool {
		for _, src := range []string{"", "new", "n += 1; delete"} {
			list = append(list, drill.Choice(e, drill.ProgramOf(src), nil), drill.Choice(e, nil, drill.ProgramOf(src)), drill.Choice(e, drill.ProgramOf(src), drill.ProgramOf("on = not on; new")))
		}
	}
	return list
}

// P12.1, P12.4, P12.7: every operation over leaves of every kind, in every statement: the plain code is the tables', it and the lowered one do what the program means.
func TestEveryConstruct(t *testing.T) {
	numbers := drill.Numbers(120)
	for _, s := range drill.Schemas() {
		rows := drill.Fitting{Schema: s, Numbers: &numbers}.Rows(4)
		everyExpr(s, func(e api.Expr, of int) {
			for _, st := range changesBy(s, e, of) {
				p := []api.Stmt{st}
				wantMeaning(t, s, p, wantPlain(t, s, p), rows)
				wantLower(t, s, p, rows)
			}
		})
	}
}

// P12.1: an optional field into another one, present and absent; and statements without an expression.
func TestOtherStatements(t *testing.T) {
	for _, text := range []string{"a:int?,b:int?,c:int?", "a:bool?,b:bool?,c:bool?", "a:bytes?,b:bytes?", exampleSchema} {
		s := drill.SchemaOf(text)
		list := []api.Stmt{{Op: api.SNew}, {Op: api.SDelete}}
		for _, to := range s.Fields {
			if to.Optional {
				list = append(list, api.Stmt{Op: api.SClear, Field: to.Name})
			}
			for _, from := range s.Fields {
				if to.Optional && to.Type == from.Type {
					list = append(list, drill.Change(api.SSet, to.Name, drill.Field(from.Name)))
				}
			}
		}
		numbers := drill.Numbers(121)
		rows := drill.Fitting{Schema: s, Numbers: &numbers}.Rows(8)
		drill.Scripts(list, 2, func(p []api.Stmt) {
			wantMeaning(t, s, p, wantPlain(t, s, p), rows)
			wantLower(t, s, p, rows)
		})
	}
}

// P12.1, P12.4, P12.7: programs of all kinds, of whatever length.
func TestDeepPrograms(t *testing.T) {
	numbers := drill.Numbers(122)
	for _, s := range drill.Schemas() {
		fitting := drill.Fitting{Schema: s, Numbers: &numbers}
		right, big, base := 0, 0, fitting.Rows(0)
		for i := range 4000 {
			p := fitting.Program(2 + i%6)
			if syntax.Check(p) != api.OK {
				continue
			}
			rows := append(base, fitting.Row(), fitting.Row())
			is := wantPlain(t, s, p)
			wantLower(t, s, p, rows)
			if drill.CodeSize(is) > api.MaxCode {
				big++
				continue
			}
			right++
			wantPass(t, s, is)
			wantMeaning(t, s, p, is, rows)
		}
		if right < 1500 || big < 300 {
			t.Errorf("%d programs are short enough, %d are not", right, big)
		}
	}
}

// farJumps: how many jumps pass over more than an instruction may have.
func farJumps(is []api.Ins) int {
	n := 0
	for _, ins := range is {
		if (ins.Op == api.IJump || ins.Op == api.IUnless) && ins.N > 255 {
			n++
		}
	}
	return n
}

// wantPass: a plain code that is short enough may be run, with at most MaxDepth values on the stack.
func wantPass(t *testing.T, s api.Schema, is []api.Ins) int {
	t.Helper()
	deep, at, e := code.Verify(s, is...)
	if e != api.OK || deep > api.MaxDepth {
		t.Fatalf("%s: %d, %d at %d", drill.ShownCode(is), deep, e, at)
	}
	return deep
}

// rightDeep: an operation over a leaf and itself, so deep.
func rightDeep(op, deep int, leaf, last api.Expr) api.Expr {
	for range deep - 1 {
		last = drill.Tree(op, leaf, last)
	}
	return last
}

// P12.7: as deep as may be: the stack holds as many values as may be.
func TestDeepestStacks(t *testing.T) {
	s := drill.SchemaOf(exampleSchema)
	rows := exampleRows()
	for _, c := range []struct {
		st   api.Stmt
		deep int
	}{
		{drill.Change(api.SMin, "n", rightDeep(api.ESub, 11, drill.Field("n"), drill.Number(3))), 12},
		{drill.Change(api.SMax, "m", rightDeep(api.EMul, 11, drill.Field("n"), drill.Field("n"))), 12},
		{drill.Change(api.SMin, "n", rightDeep(api.EAdd, 11, drill.Field("n"), drill.ExprOf("n"))), 12},
		{drill.Change(api.SSet, "n", rightDeep(api.EMax, 11, drill.Field("n"), drill.Number(3))), 11},
		{drill.Change(api.SSet, "on", drill.Nested(api.ENot, 10, drill.Here())), 1},
		{drill.Change(api.SSet, "n", drill.Nested(api.ENeg, 10, drill.Field("n"))), 1},
		{drill.Change(api.SSet, "on", rightDeep(api.EEq, 11, drill.Field("on"), drill.Here())), 11},
		{drill.Change(api.SSet, "on", rightDeep(api.EAnd, 11, drill.Field("on"), drill.Here())), 1},
		{drill.Change(api.SAdd, "m", rightDeep(api.EAdd, 11, drill.Number(1), drill.Number(3))), 11},
	} {
		p := []api.Stmt{c.st}
		is := wantPlain(t, s, p)
		if deep := wantPass(t, s, is); deep != c.deep {
			t.Errorf("%s: %d deep, want %d", drill.ShownCode(is), deep, c.deep)
		}
		wantMeaning(t, s, p, is, rows)
		wantLower(t, s, p, rows)
		if e := syntax.Check([]api.Stmt{drill.Choice(drill.Here(), p, nil)}); e != api.ErrDepth {
			t.Errorf("%s: a deeper program would be %d", drill.Shown(p), e)
		}
	}
}

// P12.1: the plain code of the greatest trees has as many instructions as it has; its jumps say how far they go.
func TestGreatestPlain(t *testing.T) {
	s := drill.SchemaOf(exampleSchema)
	e := drill.Number(7)
	for range 10 {
		e = drill.Tree(api.EPick, drill.Here(), e, e)
	}
	p := []api.Stmt{drill.Change(api.SSet, "n", e)}
	is := wantPlain(t, s, p)
	if is[1].N < 1000 || farJumps(is) < 10 {
		t.Errorf("%d instructions, the first jump passes over %d", len(is), is[1].N)
	}
	wantLower(t, s, p, nil)
	wantPlain(t, s, slices.Repeat(drill.ProgramOf("n = pick(here, n, -n)"), api.MaxStmts))
	wantPlain(t, s, slices.Repeat(drill.ProgramOf("n += 1"), api.MaxStmts))
	wantPlain(t, s, nil)
}

// P12.1, P12.4: the errors are those of typing.Check, and nothing comes with them.
func TestErrorsAreThoseOfCheck(t *testing.T) {
	numbers := drill.Numbers(123)
	for _, s := range drill.Schemas() {
		fitting := drill.Fitting{Schema: s, Numbers: &numbers}
		met := map[api.Errno]int{}
		for i := range 4000 {
			p := fitting.Program(2 + i%3)
			exprs, stmts := drill.Parts(p)
			if len(exprs) > 0 && i%4 > 0 {
				fitting.Spoil(drill.Pick(&numbers, exprs))
			} else if len(stmts) > 0 {
				drill.Pick(&numbers, stmts).Field = drill.Pick(&numbers, []string{"x", "n", "tag", "on", ""})
			}
			e, number := typing.Check(s, p)
			met[e]++
			if e == api.OK {
				wantPlain(t, s, p)
				continue
			}
			wantRefused(t, s, p, e)
			wantSourceRefused(t, s, p, e, number)
		}
		for _, e := range []api.Errno{api.OK, api.ErrTree, api.ErrField, api.ErrType, api.ErrOptional} {
			if met[e] == 0 {
				t.Errorf("no program answered %d: %v", e, met)
			}
		}
	}
}

func wantRefused(t *testing.T, s api.Schema, p []api.Stmt, want api.Errno) {
	t.Helper()
	if is, e := lower.Plain(s, p); len(is) != 0 || e != want {
		t.Fatalf("Plain(%.200s) = %.200s, %d, want %d", drill.Shown(p), drill.ShownCode(is), e, want)
	}
	if is, e := lower.Lower(s, p); len(is) != 0 || e != want {
		t.Fatalf("Lower(%.200s) = %.200s, %d, want %d", drill.Shown(p), drill.ShownCode(is), e, want)
	}
}

// wantSourceRefused: likewise of the program's text, if it has one.
func wantSourceRefused(t *testing.T, s api.Schema, p []api.Stmt, want api.Errno, number int) {
	t.Helper()
	src, none := syntax.Print(p)
	if none != api.OK || len(src) > api.MaxSource {
		return
	}
	if b, e, at := lower.Compile(s, src); len(b) != 0 || e != want || at != number {
		t.Fatalf("Compile(%s) = % x, %d, %d, want %d, %d", src, b, e, at, want, number)
	}
}

// R9: a schema that is none comes ahead of all; then what is wrong with the tree, then what does not fit.
func TestOrderOfErrorsOfPrograms(t *testing.T) {
	s := drill.Schemas()[0]
	for _, w := range drill.WrongPrograms() {
		wantRefused(t, s, w.Part, w.Errno)
		wantRefused(t, api.Schema{}, w.Part, api.ErrSchema)
	}
	for _, none := range drill.WrongSchemas() {
		for _, src := range []string{"", "new", "n = 1", "x = 1"} {
			wantRefused(t, none, drill.ProgramOf(src), api.ErrSchema)
		}
	}
}
