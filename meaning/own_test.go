package meaning_test

import (
	"slices"
	"testing"

	"arbor/api"
	"arbor/drill"
	"arbor/meaning"
	"arbor/syntax"
)

var spare = api.Value{Kind: 77, N: 77, S: "spare"}

// roomy: the same row in other memory, with marked room behind its values.
func roomy(row api.Row) api.Row {
	return api.Row{Here: row.Here, Vals: drill.Roomy(row.Vals, spare)}
}

// asItWas: is what roomy gave still the same as the row that it was given?
func asItWas(given, row api.Row) bool {
	return given.Here == row.Here && drill.AsItWas(given.Vals, row.Vals, spare)
}

// P10.6, R5: a row, a program, a schema that are handed in are not changed, nor is the spare room of their lists.
func TestArgumentsAreNotChanged(t *testing.T) {
	numbers := drill.Numbers(109)
	for _, s := range drill.Schemas() {
		fitting := drill.Fitting{Schema: s, Numbers: &numbers}
		fields := append(slices.Clone(s.Fields), api.Field{Name: "spare"})
		given := api.Schema{Fields: fields[:len(s.Fields)]}
		for i := range 1000 {
			p, row := fitting.Program(4), fitting.Row()
			if exprs, _ := drill.Parts(p); i%8 == 0 && len(exprs) > 0 {
				fitting.Spoil(drill.Pick(&numbers, exprs))
			}
			copied, in := drill.Copied(p), roomy(row)
			ps := [][]api.Stmt{copied, copied, drill.ProgramOf("delete")}
			meaning.Run(given, copied, in)
			meaning.Chain(given, in, ps[:2]...)
			for _, st := range copied {
				for _, e := range st.Exprs {
					meaning.Value(given, e, in)
				}
			}
			if !drill.Same(copied, p) || !drill.Untouched(copied) || !drill.Same(ps[2], drill.ProgramOf("delete")) {
				t.Fatalf("a program was changed: %+v, it was %+v", copied, p)
			}
			if !asItWas(in, row) {
				t.Fatalf("%s changed a row: %+v, it was %+v", drill.Shown(p), in, row)
			}
			if !slices.Equal(given.Fields, s.Fields) || fields[len(s.Fields)] != (api.Field{Name: "spare"}) {
				t.Fatalf("a schema was changed: %+v, it was %+v", fields, s.Fields)
			}
		}
	}
}

// P10.6: the row that is answered is new memory, also where nothing was to be done, and whatever made its record.
func TestAnswersShareNothing(t *testing.T) {
	s := drill.SchemaOf(exampleSchema)
	for _, src := range []string{"", "new", "n += 1", "if here { } else { new }", "delete; new", "clear m; m = m", "delete; new; delete; new"} {
		p := drill.ProgramOf(src)
		for _, row := range drill.Rows(s) {
			in := roomy(row)
			first, _ := meaning.Run(s, p, in)
			second, _ := meaning.Run(s, p, in)
			third, _ := meaning.Chain(s, in, p)
			fourth, _ := meaning.Chain(s, in)
			want := rowOf(s, bookRun(s, p, recordOf(s, row)))
			lists := [][]api.Value{in.Vals, first.Vals, second.Vals, third.Vals, fourth.Vals}
			for i, list := range lists {
				for _, other := range lists[:i] {
					if drill.Shares(list, other) {
						t.Fatalf("%s on %s: two rows share memory", src, drill.ShownRow(s, row))
					}
				}
			}
			drill.Overwrite(in.Vals, spare)
			drill.Overwrite(second.Vals, spare)
			if !drill.SameRow(first, want) || !drill.SameRow(third, want) || !drill.SameRow(fourth, row) {
				t.Fatalf("%s on %s: what was done to one row is seen in another", src, drill.ShownRow(s, row))
			}
			wantRun(t, s, p, row, want, api.OK)
		}
	}
}

// R6: an answer hangs on its own arguments alone, whatever was asked before, and refused.
func TestCallsKnowNothingOfOneAnother(t *testing.T) {
	ints, bytes := drill.SchemaOf("n:int,m:int?"), drill.SchemaOf("m:bytes,n:bytes?")
	for range 3 {
		wantRun(t, ints, drill.ProgramOf("new; m = n"), api.Row{}, drill.RowOf(ints, "{n=0,m=0}"), api.OK)
		wantRun(t, bytes, drill.ProgramOf("new; n = m"), api.Row{}, drill.RowOf(bytes, `{m="",n=""}`), api.OK)
		wantValue(t, ints, drill.Field("n"), api.Row{}, number(0), api.OK)
		wantValue(t, bytes, drill.Field("n"), api.Row{}, api.Value{}, api.OK)
		wantRun(t, bytes, drill.ProgramOf("new; m = n"), api.Row{}, api.Row{}, api.ErrOptional)
		wantRun(t, ints, drill.ProgramOf("new; n += 5"), drill.RowOf(bytes, "{}"), api.Row{}, api.ErrValue)
		wantValue(t, api.Schema{}, drill.Field("n"), api.Row{}, api.Value{}, api.ErrSchema)
		wantChain(t, ints, api.Row{}, drill.RowOf(ints, "{n=2}"), api.OK, drill.ProgramOf("new; n += 1"), drill.ProgramOf("new; n += 1"))
	}
}

// R4: a list that is nil and one without elements are the same, in rows, programs and trees.
func TestEmptyListsAreNone(t *testing.T) {
	s := drill.SchemaOf(exampleSchema)
	bare := api.Expr{Op: api.EHere, Kids: []api.Expr{}}
	record := drill.RowOf(s, "{n=3}")
	for _, none := range []api.Row{{}, {Vals: []api.Value{}}, {Vals: make([]api.Value, 0, 4)}, {Vals: record.Vals[:0]}} {
		wantValue(t, s, bare, none, truth(false), api.OK)
		wantValue(t, s, drill.Field("n"), none, number(0), api.OK)
		for _, p := range [][]api.Stmt{nil, {}, {drill.Choice(bare, []api.Stmt{}, nil), drill.Choice(bare, nil, []api.Stmt{})}} {
			wantRun(t, s, p, none, api.Row{}, api.OK)
			wantRun(t, s, p, record, record, api.OK)
			wantChain(t, s, none, api.Row{}, api.OK, p, nil, []api.Stmt{})
		}
		wantRun(t, s, drill.ProgramOf("new"), none, drill.RowOf(s, "{}"), api.OK)
		wantChain(t, s, none, api.Row{}, api.OK, [][]api.Stmt{}...)
	}
	wantRun(t, s, []api.Stmt{{Op: api.SDelete, Exprs: []api.Expr{}, Then: []api.Stmt{}, Else: []api.Stmt{}}}, record, api.Row{}, api.OK)
}

// R2: with an error nothing else is answered, whatever the row is.
func TestErrorsComeAlone(t *testing.T) {
	numbers := drill.Numbers(110)
	for _, s := range drill.Schemas() {
		fitting := drill.Fitting{Schema: s, Numbers: &numbers}
		for range 500 {
			row := fitting.Row()
			p := append(fitting.Program(3), api.Stmt{Op: api.SClear, Field: "x"})
			if errno := syntax.Check(p); errno == api.OK {
				wantRun(t, s, p, row, api.Row{}, api.ErrField)
				wantChain(t, s, row, api.Row{}, api.ErrField, fitting.Program(2), p, nil)
			}
		}
	}
}
