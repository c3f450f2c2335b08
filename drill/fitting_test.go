package drill_test

import (
	"slices"
	"testing"

	"arbor/api"
	"arbor/drill"
	"arbor/syntax"
	"arbor/typing"
	"arbor/value"
)

// What is made to fit does fit, and every operation and every field comes in it.
func TestWhatIsMadeFits(t *testing.T) {
	numbers := drill.Numbers(3)
	for _, s := range drill.Schemas() {
		fitting := drill.Fitting{Schema: s, Numbers: &numbers}
		ops, stmts, names := map[int]int{}, map[int]int{}, map[string]int{}
		for i := range 2000 {
			of := 1 + i%3
			e := fitting.Expr(of, 1+i%6)
			if got, optional, errno := typing.Type(s, e); got != of || optional || errno != api.OK {
				t.Fatalf("%s is of type %d, %v, %d, want %d", drill.ShownExpr(e), got, optional, errno, of)
			}
			p := fitting.Program(2 + i%3)
			if errno, number := typing.Check(s, p); errno != api.OK && errno != api.ErrMany {
				t.Fatalf("%s does not fit: %d at %d", drill.Shown(p), errno, number)
			}
			exprs, list := drill.Parts(p)
			for _, part := range append(exprs, drill.ExprParts([]api.Expr{e})...) {
				ops[part.Op]++
				names[part.S]++
			}
			for _, st := range list {
				stmts[st.Op]++
			}
		}
		for op := api.EInt; op <= api.EPick; op++ {
			if ops[op] == 0 {
				t.Errorf("the operation %d never came", op)
			}
		}
		for op := api.SSet; op <= api.SIf; op++ {
			if stmts[op] == 0 {
				t.Errorf("the statement %d never came", op)
			}
		}
		for _, f := range s.Fields {
			if names[f.Name] == 0 {
				t.Errorf("the field %s never came", f.Name)
			}
		}
	}
}

// Rows are of their schema, with fields that are absent and that are not, and now and then there is no record.
func TestRowsAreOfTheSchema(t *testing.T) {
	numbers := drill.Numbers(4)
	for _, s := range drill.Schemas() {
		fitting := drill.Fitting{Schema: s, Numbers: &numbers}
		none, absent, present := 0, 0, 0
		for range 500 {
			row := fitting.Row()
			if !row.Here {
				none++
				continue
			}
			if value.Check(s, row.Vals) != api.OK {
				t.Fatalf("no record: %+v", row.Vals)
			}
			for i, f := range s.Fields {
				switch {
				case f.Optional && row.Vals[i].Kind == api.None:
					absent++
				case f.Optional:
					present++
				}
			}
		}
		if none == 0 || absent == 0 || present == 0 {
			t.Errorf("%d rows without a record, %d absent fields, %d present", none, absent, present)
		}
		records := drill.Records(s)
		for _, r := range records {
			if value.Check(s, r) != api.OK {
				t.Fatalf("no record: %+v", r)
			}
		}
		for i, f := range s.Fields {
			if f.Optional && (records[0][i].Kind == api.None || records[len(records)-1][i].Kind != api.None) {
				t.Errorf("the field %s is absent in the first record, or present in the last", f.Name)
			}
		}
	}
}

// A sign's kids are what typing asks for.
func TestSignsFit(t *testing.T) {
	ops := map[int]int{}
	for _, sign := range drill.Signs() {
		s, e := api.Schema{}, drill.Tree(sign.Op)
		for i, letter := range sign.Kids {
			of, optional := drill.TypeOf(letter)
			s.Fields = append(s.Fields, api.Field{Name: "abc"[i : i+1], Type: of, Optional: optional})
			e.Kids = append(e.Kids, drill.Field("abc"[i:i+1]))
		}
		want, _ := drill.TypeOf(sign.Is)
		if got, optional, errno := typing.Type(s, e); got != want || optional || errno != api.OK {
			t.Errorf("%s is of type %d, %v, %d, want %d", drill.ShownExpr(e), got, optional, errno, want)
		}
		ops[sign.Op]++
	}
	for op := api.ENot; op <= api.EPick; op++ {
		if ops[op] == 0 {
			t.Errorf("the operation %d has no sign", op)
		}
	}
}

// What is spoiled does not fit now and then, and does so in every way.
func TestSpoiledPartsDoNotFit(t *testing.T) {
	numbers := drill.Numbers(5)
	met := map[api.Errno]int{}
	for _, s := range drill.Schemas() {
		fitting := drill.Fitting{Schema: s, Numbers: &numbers}
		for i := range 1000 {
			list := []api.Expr{fitting.Expr(1+i%3, 4)}
			fitting.Spoil(drill.Pick(&numbers, drill.ExprParts(list)))
			_, _, errno := typing.Type(s, list[0])
			met[errno]++
		}
	}
	if len(met) != 4 {
		t.Errorf("what typing says of spoiled expressions: %v", met)
	}
}

// What is wrong is refused with the error that it is told to have.
func TestWrongIsRefused(t *testing.T) {
	for _, s := range drill.WrongSchemas() {
		if value.CheckSchema(s) != api.ErrSchema {
			t.Errorf("a schema: %+v", s)
		}
	}
	for _, w := range drill.WrongExprs() {
		if got := syntax.CheckExpr(w.Part); got != w.Errno {
			t.Errorf("an expression is refused with %d, want %d", got, w.Errno)
		}
	}
	for _, w := range drill.WrongPrograms() {
		if got := syntax.Check(w.Part); got != w.Errno {
			t.Errorf("a program is refused with %d, want %d", got, w.Errno)
		}
	}
}

// Texts are what they say, and come back; a wrong one is told at once.
func TestTexts(t *testing.T) {
	s := drill.SchemaOf("n:int,tag:bytes?")
	for _, text := range []string{"none", "{n=5}", `{n=-1,tag="a"}`} {
		if got := drill.ShownRow(s, drill.RowOf(s, text)); got != text {
			t.Errorf("%s is shown as %s", text, got)
		}
	}
	for _, row := range []api.Row{{Here: true}, {Vals: value.Zero(s)}} {
		if got := drill.ShownRow(s, row); got != "no row of the schema" {
			t.Errorf("%+v is shown as %s", row, got)
		}
	}
	if got := drill.Shown(drill.ProgramOf("n=1;new")); got != "n = 1; new" {
		t.Errorf("a program is shown as %s", got)
	}
	if got := drill.ShownExpr(drill.ExprOf("(n+1)")); got != "n + 1" {
		t.Errorf("an expression is shown as %s", got)
	}
	if a, b := drill.Shown([]api.Stmt{{}}), drill.ShownExpr(api.Expr{}); a != "no program" || b != "no expression" {
		t.Errorf("what is none is shown as %s, %s", a, b)
	}
	for _, wrong := range []func(){
		func() { drill.SchemaOf("n") },
		func() { drill.RowOf(s, "{m=1}") },
		func() { drill.ExprOf("n +") },
		func() { drill.ProgramOf("n") },
	} {
		func() {
			defer func() {
				if recover() == nil {
					t.Error("a wrong text is taken")
				}
			}()
			wrong()
		}()
	}
}

// Trees are made as their names say.
func TestBuiltTrees(t *testing.T) {
	built := []api.Stmt{
		drill.Choice(drill.Here(), []api.Stmt{drill.Change(api.SAdd, "n", drill.Tree(api.EMul, drill.Field("n"), drill.Number(-2)))}, []api.Stmt{{Op: api.SNew}}),
		drill.Change(api.SSet, "on", drill.Nested(api.ENot, 2, drill.Literal(api.Value{Kind: api.Bool, N: 1}))),
		drill.Change(api.SSet, "tag", drill.Literal(api.Value{Kind: api.Bytes, S: "a"})),
		drill.Change(api.SMin, "n", drill.Literal(api.Value{Kind: api.Int, N: 7})),
	}
	if want := drill.ProgramOf(`if here { n += n * -2 } else { new }; on = not not true; tag = "a"; n min= 7`); !drill.Same(built, want) {
		t.Errorf("%+v, want %+v", built, want)
	}
	if !slices.Equal(drill.Values(api.None), nil) {
		t.Error("there are values of no type")
	}
}
