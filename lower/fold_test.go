package lower_test

import (
	"testing"

	"arbor/api"
	"arbor/drill"
	"arbor/lower"
	"arbor/meaning"
	"arbor/typing"
)

// literals: all that the edges of a type's values give.
func literals(of int) []api.Expr {
	var list []api.Expr
	for _, v := range drill.Values(of) {
		list = append(list, drill.Literal(v))
	}
	return list
}

// P12.2: every operation over literals at the edges is the literal of its value.
func TestFoldOfLiterals(t *testing.T) {
	for _, s := range drill.Schemas() {
		for _, sign := range drill.Signs() {
			if sign.Op == api.EElse {
				continue
			}
			var choices [][]api.Expr
			for _, letter := range sign.Kids {
				choices = append(choices, literals(drillType(letter)))
			}
			everyChoice(choices, nil, func(kids []api.Expr) {
				e := drill.Tree(sign.Op, kids...)
				want, _ := meaning.Value(s, e, api.Row{})
				if got, errno := lower.Fold(s, e); !drill.SameExpr(got, drill.Literal(want)) || errno != api.OK {
					t.Fatalf("Fold(%s) = %s, %d, want %+v", drill.ShownExpr(e), drill.ShownExpr(got), errno, want)
				}
			})
		}
	}
}

// P12.2: every operation over leaves of every kind.
func TestFoldOfEveryOperation(t *testing.T) {
	numbers := drill.Numbers(124)
	for _, s := range drill.Schemas() {
		rows := drill.Fitting{Schema: s, Numbers: &numbers}.Rows(4)
		everyExpr(s, func(e api.Expr, _ int) { wantFold(t, s, e, rows) })
		for of := api.Int; of <= api.Bytes; of++ {
			for _, e := range leaves(s, of, true) {
				wantFold(t, s, e, rows)
			}
		}
	}
}

// withoutRow: an expression of a type in which nothing asks the row.
func withoutRow(fitting drill.Fitting, of, deep int) api.Expr {
	bare := drill.Fitting{Schema: api.Schema{}, Numbers: fitting.Numbers}
	e := bare.Expr(of, deep)
	for _, part := range drill.ExprParts([]api.Expr{e}) {
		if part.Op == api.EHere {
			*part = drill.Literal(api.Value{Kind: api.Bool, N: int64(fitting.Numbers.Below(2))})
		}
	}
	if e.Op == api.EHere {
		return drill.Literal(api.Value{Kind: api.Bool})
	}
	return e
}

// P12.2: expressions of all kinds; and those in which nothing asks the row are literals.
func TestFoldOfDeepExpressions(t *testing.T) {
	numbers := drill.Numbers(125)
	for _, s := range drill.Schemas() {
		fitting := drill.Fitting{Schema: s, Numbers: &numbers}
		shorter, literal, base := 0, 0, fitting.Rows(0)
		for i := range 4000 {
			e := fitting.Expr(1+i%3, 2+i%5)
			if i%4 == 0 {
				e = withoutRow(fitting, 1+i%3, 2+i%5)
			}
			got := wantFold(t, s, e, append(base, fitting.Row(), fitting.Row()))
			if len(drill.ExprParts([]api.Expr{got})) < len(drill.ExprParts([]api.Expr{e})) {
				shorter++
			}
			if isLiteral(got) && !isLiteral(e) {
				literal++
			}
		}
		if shorter < 800 || literal < 500 {
			t.Errorf("only %d expressions became shorter, %d a literal", shorter, literal)
		}
	}
}

// P12.2: literals meet where something between them was folded, at each depth.
func TestFoldFromTheInsideOut(t *testing.T) {
	s := drill.SchemaOf(exampleSchema)
	for _, c := range [][2]string{
		{"1 + (2 + (3 + (4 + (5 + (6 + (7 + (8 + (9 + (10 + 11)))))))))", "66"},
		{"((((((((((1 + 2) + 3) + 4) + 5) + 6) + 7) + 8) + 9) + 10) + 11)", "66"},
		{"pick(not (len(cat(\"a\", \"bc\")) == 3), n, 5) * n", "pick(false, n, 5) * n"},
		{"m ?? 1 + 2 * 3", "m ?? 7"},
		{"n + (1 + 2)", "n + 3"},
		{"1 + 2 + n", "3 + n"},
		{"(1 + n) + (2 + 3)", "1 + n + 5"},
		{"n + 1 + 2", "n + 1 + 2"},
		{"min(1 + 1, 3) - max(n, -(-4) * 2)", "2 - max(n, 8)"},
		{"has m and 1 < 2", "has m and true"},
		{"here or not true", "here or false"},
		{"m", "m"},
		{"tag", "tag"},
		{"5", "5"},
		{"-9223372036854775808 - 1", "9223372036854775807"},
		{"-(-9223372036854775808)", "-9223372036854775808"},
		{"4294967296 * 4294967296", "0"},
	} {
		x := drill.ExprOf(c[0])
		if got := drill.ShownExpr(bookFolded(s, x)); got != c[1] {
			t.Errorf("the folded form of %s is %s, want %s", c[0], got, c[1])
		}
		got := wantFold(t, s, x, exampleRows())
		if isLiteral(drill.ExprOf(c[1])) && drill.ShownExpr(got) != c[1] {
			t.Errorf("Fold(%s) = %s, want %s", c[0], drill.ShownExpr(got), c[1])
		}
	}
	for _, e := range []api.Expr{drill.Nested(api.ENot, 11, drill.Here()), drill.Nested(api.ENot, 11, drill.ExprOf("true")), drill.Nested(api.ENeg, 11, drill.Field("n"))} {
		wantFold(t, s, e, exampleRows())
	}
}

// P12.2: the greatest trees.
func TestGreatestFold(t *testing.T) {
	s := drill.SchemaOf(exampleSchema)
	for _, leaf := range []api.Expr{drill.Number(3), drill.Field("n")} {
		for _, op := range []int{api.EAdd, api.EMul, api.EMin} {
			e := leaf
			for range api.MaxDepth - 1 {
				e = drill.Tree(op, e, e)
			}
			wantFold(t, s, e, exampleRows()[:2])
			if _, errno := lower.Fold(s, drill.Tree(op, e, e)); errno != api.ErrDepth {
				t.Errorf("a deeper one: %d", errno)
			}
		}
	}
}

func wantFoldRefused(t *testing.T, s api.Schema, e api.Expr, want api.Errno) {
	t.Helper()
	if got, errno := lower.Fold(s, e); !drill.SameExpr(got, api.Expr{}) || errno != want {
		t.Fatalf("Fold(%.200s) = %+v, %d, want %d", drill.ShownExpr(e), got, errno, want)
	}
}

// P12.2: the errors are those of typing.Type, and no expression comes with them.
func TestErrorsAreThoseOfType(t *testing.T) {
	numbers := drill.Numbers(126)
	for _, s := range drill.Schemas() {
		fitting := drill.Fitting{Schema: s, Numbers: &numbers}
		met, base := map[api.Errno]int{}, fitting.Rows(0)
		for i := range 3000 {
			list := []api.Expr{fitting.Expr(1+i%3, 2+i%4)}
			fitting.Spoil(drill.Pick(&numbers, drill.ExprParts(list)))
			_, _, e := typing.Type(s, list[0])
			met[e]++
			if e == api.OK {
				wantFold(t, s, list[0], base)
			} else {
				wantFoldRefused(t, s, list[0], e)
			}
		}
		for _, e := range []api.Errno{api.OK, api.ErrField, api.ErrType, api.ErrOptional} {
			if met[e] == 0 {
				t.Errorf("no expression answered %d: %v", e, met)
			}
		}
	}
	s := drill.Schemas()[0]
	for _, w := range drill.WrongExprs() {
		wantFoldRefused(t, s, w.Part, w.Errno)
		wantFoldRefused(t, api.Schema{}, w.Part, api.ErrSchema)
	}
	for _, none := range drill.WrongSchemas() {
		wantFoldRefused(t, none, drill.ExprOf("1 + 2"), api.ErrSchema)
		wantFoldRefused(t, none, drill.ExprOf("x"), api.ErrSchema)
	}
}
