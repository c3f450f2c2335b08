package typing_test

import (
	"slices"
	"testing"

	"arbor/api"
	"arbor/drill"
	"arbor/syntax"
	"arbor/typing"
)

// schemas: those that between them have a field of every kind.
func schemas(t *testing.T) []api.Schema {
	return []api.Schema{schemaOf(t, intsSchema), schemaOf(t, bytesSchema)}
}

// P9.1: every expression without kids, every operation over all of these.
func TestTypeOfEveryShortExpr(t *testing.T) {
	for _, s := range schemas(t) {
		leaves := leavesOf(s)
		for _, leaf := range leaves {
			wantBookType(t, s, leaf)
		}
		over(leaves, func(e api.Expr) { wantBookType(t, s, e) })
	}
}

// P9.1: every operation over kids that are of every kind, or have every error, by themselves or deep inside.
func TestTypeOfEveryKindOfKid(t *testing.T) {
	for _, s := range schemas(t) {
		kinds := kindsOf(s)
		outcomes := map[api.Errno]int{}
		over(kinds, func(e api.Expr) {
			wantBookType(t, s, e)
			_, _, errno := typing.Type(s, e)
			outcomes[errno]++
		})
		for _, errno := range []api.Errno{api.OK, api.ErrField, api.ErrType, api.ErrOptional} {
			if outcomes[errno] == 0 {
				t.Errorf("no expression answered %d", errno)
			}
		}
	}
}

// P9.1: deep expressions, and those that are one part away from them.
func TestTypeOfDeepExprs(t *testing.T) {
	numbers := drill.Numbers(91)
	for _, s := range schemas(t) {
		deepest, refused := 0, map[api.Errno]int{}
		for i := range 4000 {
			of := pickOne(&numbers, []int{api.Int, api.Bool, api.Bytes})
			e := fitting(&numbers, s, typeNames[of], 2+i%6)
			wantType(t, s, e, of, false, api.OK)
			parts := drill.ExprParts([]api.Expr{e})
			deepest = max(deepest, len(parts))
			list := drill.CopiedExprs([]api.Expr{e})
			for range 1 + i%2 {
				spoil(&numbers, s, pickOne(&numbers, drill.ExprParts(list)))
			}
			wantBookType(t, s, list[0])
			_, _, errno := typing.Type(s, list[0])
			refused[errno]++
		}
		if deepest < 50 || len(refused) < 4 {
			t.Errorf("the greatest expression has %d parts; refused: %v", deepest, refused)
		}
	}
}

// Names are held against each other byte by byte, all of them.
func TestNamesOfFields(t *testing.T) {
	s := schemaOf(t, "a:int,A:bool,aa:bytes?,_:int?,abcdefgh:bool?")
	for _, f := range s.Fields {
		wantType(t, s, field(f.Name), f.Type, f.Optional, api.OK)
	}
	for _, name := range []string{"b", "AA", "aA", "aaa", "__", "a_", "a1", "abcdefg", "abcdefgH", "bcdefgh"} {
		wantType(t, s, field(name), 0, false, api.ErrField)
		wantType(t, s, api.Expr{Op: api.EHas, S: name}, 0, false, api.ErrField)
		for _, st := range []api.Stmt{set(name, number(1)), {Op: api.SAdd, Field: name, Exprs: []api.Expr{number(1)}}, {Op: api.SClear, Field: name}} {
			wantCheck(t, s, []api.Stmt{st}, api.ErrField, 0)
		}
	}
}

// A literal's type does not hang on what it is, nor a name's on what a literal says.
func TestLiterals(t *testing.T) {
	s := schemaOf(t, intsSchema)
	for _, n := range []int64{0, 1, -1, 1<<63 - 1, -1 << 63} {
		wantType(t, s, number(n), api.Int, false, api.OK)
	}
	for n := range int64(2) {
		wantType(t, s, api.Expr{Op: api.EBool, N: n}, api.Bool, false, api.OK)
	}
	for _, text := range []string{"", "n", "m", "x", "\x00\xff", "abcdefghijklmnopqrst"} {
		wantType(t, s, api.Expr{Op: api.EBytes, S: text}, api.Bytes, false, api.OK)
	}
}

// wrongSchemas: what value.CheckSchema refuses.
func wrongSchemas() []api.Schema {
	of := func(fields ...api.Field) api.Schema { return api.Schema{Fields: fields} }
	n := api.Field{Name: "n", Type: api.Int}
	return []api.Schema{
		{},
		{Fields: []api.Field{}},
		of(n, n),
		of(n, api.Field{Name: "n", Type: api.Bool, Optional: true}),
		of(n, api.Field{Name: "", Type: api.Int}),
		of(n, api.Field{Name: "if", Type: api.Int}),
		of(n, api.Field{Name: "9", Type: api.Int}),
		of(n, api.Field{Name: "abcdefghi", Type: api.Int}),
		of(n, api.Field{Name: "a"}),
		of(n, api.Field{Name: "a", Type: 4}),
		of(n, api.Field{Name: "a", Type: -1}),
		of(n, api.Field{Name: "a", Type: api.Bytes}, api.Field{Name: "b", Type: api.Bytes}, api.Field{Name: "c", Type: api.Bytes}),
		of(slices.Repeat([]api.Field{n}, 1<<17)...),
	}
}

// wrongExprs: what syntax.CheckExpr refuses, by its error.
func wrongExprs() map[api.Errno][]api.Expr {
	return map[api.Errno][]api.Expr{
		api.ErrTree: {
			{}, {Op: -1}, {Op: 26}, {Op: 1 << 40}, {Op: -1 << 63},
			{Op: api.EInt, S: "a"}, {Op: api.EBool, N: 2}, {Op: api.EBytes, S: "abcdefghijklmnopqrstu"}, {Op: api.EHere, N: 1},
			field(""), field("if"), field("abcdefghi"), field("9"), {Op: api.EHas, S: "n!"}, {Op: api.EField, S: "n", N: 1},
			tree(api.ENot), tree(api.EAdd, number(1)), tree(api.EAdd, number(1), number(2), number(3)), tree(api.EInt, number(1)),
			tree(api.EPick, here(), number(1)), tree(api.EAdd, field("x"), tree(api.ENot)), tree(api.EAnd, number(1), api.Expr{}),
			{Op: api.EPick, Kids: slices.Repeat([]api.Expr{here()}, 1<<17)},
			nested(api.ENot, 1<<16, api.Expr{}), nested(api.ENot, 12, api.Expr{}),
		},
		api.ErrDepth: {
			nested(api.ENot, 12, here()), nested(api.ENot, 12, field("x")), nested(api.ENeg, 100, here()), nested(api.ENot, 1<<16, here()),
			tree(api.EAdd, field("x"), nested(api.ENot, 11, here())),
		},
	}
}

// P9.1, R9: a schema that is none comes ahead of all, then what is wrong with the tree.
func TestOrderOfErrorsOfType(t *testing.T) {
	s := schemaOf(t, intsSchema)
	for errno, list := range wrongExprs() {
		for _, e := range list {
			if got := syntax.CheckExpr(e); got != errno {
				t.Fatalf("CheckExpr of %+v = %d", e, got)
			}
			wantType(t, s, e, 0, false, errno)
			wantType(t, api.Schema{}, e, 0, false, api.ErrSchema)
		}
	}
	for _, wrong := range wrongSchemas() {
		for _, e := range leavesOf(s) {
			wantType(t, wrong, e, 0, false, api.ErrSchema)
		}
		wantType(t, wrong, tree(api.EAdd, field("m"), field("x")), 0, false, api.ErrSchema)
	}
}

// P9.1: an expression as deep as may be has its type; its errors are found at its deepest place.
func TestDeepestExpr(t *testing.T) {
	s := schemaOf(t, intsSchema)
	wantType(t, s, nested(api.ENot, 11, here()), api.Bool, false, api.OK)
	wantType(t, s, nested(api.ENot, 11, field("x")), 0, false, api.ErrField)
	wantType(t, s, nested(api.ENot, 11, field("n")), 0, false, api.ErrType)
	wantType(t, s, nested(api.ENot, 11, field("off")), 0, false, api.ErrOptional)
}
