package lower_test

import (
	"bytes"
	"slices"
	"testing"

	"arbor/api"
	"arbor/code"
	"arbor/drill"
	"arbor/lower"
	"arbor/syntax"
)

var spare = api.Ins{Op: 77, N: 77, S: "spare"}

// R5: schemas, programs, expressions and codes that are handed in are not changed, nor is the spare room of their lists.
func TestArgumentsAreNotChanged(t *testing.T) {
	numbers := drill.Numbers(130)
	for _, s := range drill.Schemas() {
		fitting := drill.Fitting{Schema: s, Numbers: &numbers}
		fields := append(slices.Clone(s.Fields), api.Field{Name: "spare"})
		given := api.Schema{Fields: fields[:len(s.Fields)]}
		for i := range 1500 {
			p := fitting.Program(2 + i%4)
			if exprs, _ := drill.Parts(p); i%8 == 0 && len(exprs) > 0 {
				fitting.Spoil(drill.Pick(&numbers, exprs))
			}
			copied := drill.Copied(p)
			is, _ := lower.Plain(given, copied)
			lower.Lower(given, copied)
			lower.Compile(given, drill.Shown(copied))
			for _, st := range copied {
				for _, e := range st.Exprs {
					lower.Fold(given, e)
				}
			}
			if !drill.Same(copied, p) || !drill.Untouched(copied) {
				t.Fatalf("a program was changed: %+v, it was %+v", copied, p)
			}
			for _, is := range [][]api.Ins{is, fitting.Code(2 + i%4), drill.CodeOf("push 1; addto 3; push 2; addto 3"), drill.CodeOf("jump 1; new; here; not; not; unless 0")} {
				in := drill.Roomy(is, spare)
				lower.Peephole(given, in...)
				if !drill.AsItWas(in, is, spare) {
					t.Fatalf("a code was changed: %s, it was %s", drill.ShownCode(in[:len(in)+1]), drill.ShownCode(is))
				}
			}
			if !slices.Equal(given.Fields, s.Fields) || fields[len(s.Fields)] != (api.Field{Name: "spare"}) {
				t.Fatalf("a schema was changed: %+v, it was %+v", fields, s.Fields)
			}
		}
	}
}

// R5: codes and bytes that are answered are new memory, also where nothing was to be done.
func TestCodesShareNothing(t *testing.T) {
	numbers := drill.Numbers(131)
	for _, s := range drill.Schemas() {
		fitting := drill.Fitting{Schema: s, Numbers: &numbers}
		for i := range 1500 {
			p := fitting.Program(2 + i%3)
			src, e := syntax.Print(p)
			if _, wrong := lower.Lower(s, p); wrong != api.OK || e != api.OK || len(src) > api.MaxSource {
				continue
			}
			plain, _ := lower.Plain(s, p)
			again, _ := lower.Plain(s, p)
			lowered, _ := lower.Lower(s, p)
			in := drill.Roomy(plain, spare)
			short, _ := lower.Peephole(s, in...)
			shorter, _ := lower.Peephole(s, short...)
			first, _, _ := lower.Compile(s, src)
			second, _, _ := lower.Compile(s, src)
			lists := [][]api.Ins{plain, again, lowered, in, short, shorter}
			for j, list := range lists {
				for _, other := range lists[:j] {
					if drill.Shares(list, other) {
						t.Fatalf("%s: two codes share memory", src)
					}
				}
			}
			if drill.Shares(first, second) {
				t.Fatalf("%s: two answers share memory", src)
			}
			want := slices.Clone(first)
			drill.Overwrite(in, spare)
			drill.Overwrite(again, spare)
			drill.Overwrite(lowered, spare)
			drill.Overwrite(short, spare)
			drill.Overwrite(second, 0x77)
			if now, _, _ := lower.Compile(s, src); !slices.Equal(plain, bookPlain(s, p)) || !bytes.Equal(first, want) || !bytes.Equal(now, want) || drill.Slack(s, shorter) != "" {
				t.Fatalf("%s: what was done to one list is seen in another", src)
			}
		}
	}
}

// lists: all lists of kids in an expression.
func lists(e api.Expr) [][]api.Expr {
	all := [][]api.Expr{e.Kids}
	for _, kid := range e.Kids {
		all = append(all, lists(kid)...)
	}
	return all
}

// R5: an expression that is answered shares no list with the one that was handed in, with another answer, or within itself.
func TestExpressionsShareNothing(t *testing.T) {
	numbers := drill.Numbers(132)
	for _, s := range drill.Schemas() {
		fitting := drill.Fitting{Schema: s, Numbers: &numbers}
		for i := range 1000 {
			e := drill.CopiedExprs([]api.Expr{fitting.Expr(1+i%3, 1+i%4)})[0]
			first, _ := lower.Fold(s, e)
			second, _ := lower.Fold(s, e)
			want := drill.ShownExpr(first)
			all := slices.Concat(lists(first), lists(second))
			for j, list := range all {
				for _, other := range slices.Concat(all[:j], lists(e)) {
					if drill.Shares(list, other) {
						t.Fatalf("Fold(%s) = %s: two lists share memory", drill.ShownExpr(e), want)
					}
				}
			}
			for _, list := range slices.Concat(lists(second), lists(e)) {
				drill.Overwrite(list, drill.Here())
			}
			if got := drill.ShownExpr(first); got != want {
				t.Fatalf("Fold: %s became %s", want, got)
			}
		}
	}
	sum := drill.ExprOf("n + 1")
	got, e := lower.Fold(drill.SchemaOf(exampleSchema), drill.Tree(api.EMul, sum, sum))
	if e != api.OK || len(got.Kids) == 2 && drill.Shares(got.Kids[0].Kids, got.Kids[1].Kids) {
		t.Errorf("Fold of what shares within itself = %s, %d", drill.ShownExpr(got), e)
	}
}

// R6: an answer hangs on its own arguments alone, whatever was asked before, and refused.
func TestCallsKnowNothingOfOneAnother(t *testing.T) {
	ints, turned := drill.SchemaOf("n:int,m:int?,on:bool"), drill.SchemaOf("on:bool?,m:int,n:int?")
	rows := func(s api.Schema) []api.Row {
		numbers := drill.Numbers(133)
		return drill.Fitting{Schema: s, Numbers: &numbers}.Rows(3)
	}
	for range 3 {
		for _, src := range []string{"n += 1; n += 2", "m = 1 + 1", "if here { n min= 3 } else { new }", "on = not (m ?? 3 > 2)", "clear n", "clear m", "n = m", "n = ", "m max= 7; m += 5"} {
			for _, s := range []api.Schema{ints, turned} {
				wantCompile(t, s, src, rows(s))
			}
		}
		wantFold(t, ints, drill.ExprOf("n + (1 + 2)"), rows(ints))
		wantFoldRefused(t, turned, drill.ExprOf("n + (1 + 2)"), api.ErrOptional)
		wantPeephole(t, ints, drill.CodeOf("push 1; addto 1; push 2; addto 1"), rows(ints))
		wantPeepholeRefused(t, turned, drill.CodeOf("push 1; addto 0; push 2; addto 0"), api.ErrOperand)
	}
}

// R4: a list that is nil and one without elements are the same, in programs, trees and codes.
func TestEmptyListsAreNone(t *testing.T) {
	s := drill.SchemaOf(exampleSchema)
	rows := exampleRows()
	five, here := api.Expr{Op: api.EInt, N: 5, Kids: []api.Expr{}}, api.Expr{Op: api.EHere, Kids: make([]api.Expr, 0, 3)}
	for _, p := range [][]api.Stmt{nil, {}, make([]api.Stmt, 0, 4), {drill.Choice(here, []api.Stmt{}, nil)}, {drill.Choice(here, nil, []api.Stmt{})}, {drill.Choice(here, drill.ProgramOf("delete"), []api.Stmt{})},
		{{Op: api.SDelete, Exprs: []api.Expr{}, Then: []api.Stmt{}, Else: []api.Stmt{}}}, {drill.Change(api.SAdd, "n", five)}, {drill.Change(api.SSet, "n", drill.Tree(api.EAdd, five, five))}} {
		wantMeaning(t, s, p, wantPlain(t, s, p), rows)
		wantLower(t, s, p, rows)
	}
	wantFold(t, s, five, rows)
	wantFold(t, s, here, rows)
	if got := wantFold(t, s, drill.Tree(api.EAdd, five, five), rows); got.N != 10 {
		t.Errorf("5 + 5 is %s", drill.ShownExpr(got))
	}
	for _, none := range [][]api.Ins{nil, {}, make([]api.Ins, 0, 4), drill.CodeOf("push 1")[:0]} {
		wantPeephole(t, s, none, rows)
	}
	if b, e, at := lower.Compile(s, ""); len(b) != 0 || e != api.OK || at != 0 {
		t.Errorf("Compile of nothing = % x, %d, %d", b, e, at)
	}
	if deep, at, e := code.Verify(s); deep != 0 || at != 0 || e != api.OK {
		t.Errorf("the code without instructions: %d, %d, %d", deep, at, e)
	}
}
