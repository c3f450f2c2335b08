package typing_test

import (
	"testing"

	"arbor/api"
	"arbor/drill"
	"arbor/typing"
)

// P9.1: every expression without kids, every operation over all of these.
func TestTypeOfEveryShortExpr(t *testing.T) {
	for _, s := range drill.Schemas() {
		leaves := leavesOf(s)
		for _, leaf := range leaves {
			wantBookType(t, s, leaf)
		}
		over(leaves, func(e api.Expr) { wantBookType(t, s, e) })
	}
}

// P9.1: every operation over kids that are of every kind, or have every error, by themselves or deep inside.
func TestTypeOfEveryKindOfKid(t *testing.T) {
	for _, s := range drill.Schemas() {
		kinds := kindsOf(s)
		outcomes := map[api.Errno]int{}
		over(kinds, func(e api.Expr) {
			wantBookType(t, s, e)
			_, _, errno := typing.Type(s, e)
			outcomes[errno]++
		})
		for _, errno := range []api.Errno{api.OK, api.ErrField, api.ErrType, api.ErrOptional} {
			if outcomes[errno] == 0 {
				t.Errorf("no expression answered %d", errno)
			}
		}
	}
}

// P9.1: deep expressions, and those that are one part away from them.
func TestTypeOfDeepExprs(t *testing.T) {
	numbers := drill.Numbers(91)
	for _, s := range drill.Schemas() {
		fitting := drill.Fitting{Schema: s, Numbers: &numbers}
		deepest, refused := 0, map[api.Errno]int{}
		for i := range 4000 {
			of := drill.Pick(&numbers, []int{api.Int, api.Bool, api.Bytes})
			e := fitting.Expr(of, 2+i%6)
			wantType(t, s, e, of, false, api.OK)
			parts := drill.ExprParts([]api.Expr{e})
			deepest = max(deepest, len(parts))
			list := drill.CopiedExprs([]api.Expr{e})
			for range 1 + i%2 {
				fitting.Spoil(drill.Pick(&numbers, drill.ExprParts(list)))
			}
			wantBookType(t, s, list[0])
			_, _, errno := typing.Type(s, list[0])
			refused[errno]++
		}
		if deepest < 50 || len(refused) < 4 {
			t.Errorf("the greatest expression has %d parts; refused: %v", deepest, refused)
		}
	}
}

// Names are held against each other byte by byte, all of them.
func TestNamesOfFields(t *testing.T) {
	s := drill.SchemaOf("a:int,A:bool,aa:bytes?,_:int?,abcdefgh:bool?")
	for _, f := range s.Fields {
		wantType(t, s, drill.Field(f.Name), f.Type, f.Optional, api.OK)
	}
	for _, name := range []string{"b", "AA", "aA", "aaa", "__", "a_", "a1", "abcdefg", "abcdefgH", "bcdefgh"} {
		wantType(t, s, drill.Field(name), 0, false, api.ErrField)
		wantType(t, s, api.Expr{Op: api.EHas, S: name}, 0, false, api.ErrField)
		for _, st := range []api.Stmt{drill.Change(api.SSet, name, drill.Number(1)), {Op: api.SAdd, Field: name, Exprs: []api.Expr{drill.Number(1)}}, {Op: api.SClear, Field: name}} {
			wantCheck(t, s, []api.Stmt{st}, api.ErrField, 0)
		}
	}
}

// A literal's type does not hang on what it is, nor a name's on what a literal says.
func TestLiterals(t *testing.T) {
	s := drill.Schemas()[0]
	for _, n := range []int64{0, 1, -1, 1<<63 - 1, -1 << 63} {
		wantType(t, s, drill.Number(n), api.Int, false, api.OK)
	}
	for n := range int64(2) {
		wantType(t, s, api.Expr{Op: api.EBool, N: n}, api.Bool, false, api.OK)
	}
	for _, text := range []string{"", "n", "m", "x", "\x00\xff", "abcdefghijklmnopqrst"} {
		wantType(t, s, api.Expr{Op: api.EBytes, S: text}, api.Bytes, false, api.OK)
	}
}

// P9.1, R9: a schema that is none comes ahead of all, then what is wrong with the tree.
func TestOrderOfErrorsOfType(t *testing.T) {
	s := drill.Schemas()[0]
	for _, wrong := range drill.WrongExprs() {
		wantType(t, s, wrong.Part, 0, false, wrong.Errno)
		wantType(t, api.Schema{}, wrong.Part, 0, false, api.ErrSchema)
	}
	for _, wrong := range drill.WrongSchemas() {
		for _, e := range leavesOf(s) {
			wantType(t, wrong, e, 0, false, api.ErrSchema)
		}
		wantType(t, wrong, drill.Tree(api.EAdd, drill.Field("m"), drill.Field("x")), 0, false, api.ErrSchema)
	}
}

// P9.1: an expression as deep as may be has its type; its errors are found at its deepest place.
func TestDeepestExpr(t *testing.T) {
	s := drill.Schemas()[0]
	wantType(t, s, drill.Nested(api.ENot, 11, drill.Here()), api.Bool, false, api.OK)
	wantType(t, s, drill.Nested(api.ENot, 11, drill.Field("x")), 0, false, api.ErrField)
	wantType(t, s, drill.Nested(api.ENot, 11, drill.Field("n")), 0, false, api.ErrType)
	wantType(t, s, drill.Nested(api.ENot, 11, drill.Field("off")), 0, false, api.ErrOptional)
}
