package migrate_test

import (
	"slices"
	"testing"

	"arbor/api"
	"arbor/drill"
	"arbor/migrate"
	"arbor/typing"
)

var (
	spareValue = api.Value{Kind: 77, N: 77, S: "spare"}
	spareField = api.Field{Name: "spare"}
	spareEdit  = api.Edit{Kind: 77, Name: "spare"}
)

// fitting: some programs that fit, and edits of the schema, now and then wrong ones.
func fitting(t *testing.T, seed drill.Numbers, ask func(s api.Schema, f drill.Fitting, p []api.Stmt, es []api.Edit)) {
	for _, s := range schemas() {
		f := drill.Fitting{Schema: s, Numbers: &seed}
		for i := range 300 {
			p := f.Program(2 + i%3)
			es := fittingEdits(&seed, s, i%5)
			if i%7 == 0 {
				es = append(es, anyEdit(&seed, s))
			}
			if e, _ := typing.Check(s, p); e == api.OK {
				ask(s, f, p, es)
			}
		}
	}
}

// P23.8, R5: schemas, records, programs and edits that are handed in are not changed, nor is the spare room of their lists.
func TestArgumentsAreNotChanged(t *testing.T) {
	fitting(t, 361, func(s api.Schema, f drill.Fitting, p []api.Stmt, es []api.Edit) {
		record := f.Record()
		given := api.Schema{Fields: drill.Roomy(s.Fields, spareField)}
		vals, program, edits := drill.Roomy(record, spareValue), drill.Copied(p), drill.Roomy(es, spareEdit)
		migrate.Print(edits...)
		migrate.Target(given, edits...)
		migrate.Record(given, vals, edits...)
		migrate.Record(given, vals[:len(vals)-1], edits...)
		migrate.Program(given, program, edits...)
		if !drill.AsItWas(given.Fields, s.Fields, spareField) || !drill.AsItWas(vals, record, spareValue) || !drill.AsItWas(edits, es, spareEdit) {
			t.Fatalf("by %s: a schema, a record or edits were changed: %v, %v, %v", shown(es), given, vals, edits)
		}
		if !drill.Same(program, p) || !drill.Untouched(program) {
			t.Fatalf("by %s: a program was changed: %s, it was %s", shown(es), drill.Shown(program), drill.Shown(p))
		}
	})
}

// listsOf: all lists of a program, those without elements too.
func listsOf(p []api.Stmt) (exprs [][]api.Expr, stmts [][]api.Stmt) {
	stmts = append(stmts, p)
	inExprs, inStmts := drill.Parts(p)
	for _, st := range inStmts {
		exprs, stmts = append(exprs, st.Exprs), append(stmts, st.Then, st.Else)
	}
	for _, e := range inExprs {
		exprs = append(exprs, e.Kids)
	}
	return exprs, stmts
}

// overwriteAll: every place of every list of a program.
func overwriteAll(p []api.Stmt) {
	exprs, stmts := listsOf(p)
	for _, list := range exprs {
		drill.Overwrite(list, api.Expr{Op: 99})
	}
	for _, list := range stmts {
		drill.Overwrite(list, api.Stmt{Op: 99})
	}
}

// P23.8: what is answered is new memory: it shares none with the arguments, with another answer, or within itself.
func TestAnswersShareNothing(t *testing.T) {
	fitting(t, 362, func(s api.Schema, f drill.Fitting, p []api.Stmt, es []api.Edit) {
		record, program := f.Record(), drill.Copied(p)
		target, e := migrate.Target(s, es...)
		if e != api.OK {
			return
		}
		again, _ := migrate.Target(s, es...)
		if drill.AnyTwoShare([][]api.Field{s.Fields, target.Fields, again.Fields}) {
			t.Fatalf("Target by %s: lists share memory", shown(es))
		}
		edited, _ := migrate.Record(s, record, es...)
		other, _ := migrate.Record(s, record, es...)
		if drill.AnyTwoShare([][]api.Value{record, edited, other}) {
			t.Fatalf("Record by %s: lists share memory", shown(es))
		}
		one, errno := migrate.Program(s, program, es...)
		two, _ := migrate.Program(s, program, es...)
		var exprs [][]api.Expr
		var stmts [][]api.Stmt
		for _, x := range [][]api.Stmt{program, one, two} {
			inExprs, inStmts := listsOf(x)
			exprs, stmts = append(exprs, inExprs...), append(stmts, inStmts...)
		}
		if drill.AnyTwoShare(exprs) || drill.AnyTwoShare(stmts) {
			t.Fatalf("Program of %s by %s: lists share memory", drill.Shown(p), shown(es))
		}
		drill.Overwrite(again.Fields, spareField)
		drill.Overwrite(other, spareValue)
		overwriteAll(two)
		wantRecord(t, s, record, es)
		wantTarget(t, s, es)
		wantProgramIs(t, s, program, es, one, errno)
	})
}

// P23.8, R5: trees whose lists share memory with one another: those of the answer share none.
func TestTreesThatShareWithinThemselves(t *testing.T) {
	s := drill.SchemaOf("n:int,m:int?,on:bool")
	sum := drill.Tree(api.EAdd, drill.Field("n"), drill.Field("n"))
	twice := drill.Change(api.SSet, "n", drill.Tree(api.EMul, sum, sum))
	block := []api.Stmt{twice, {Op: api.SNew}, {Op: api.SClear, Field: "m"}, twice}
	p := []api.Stmt{drill.Choice(drill.Here(), block, block), drill.Choice(drill.Here(), block, nil)}
	for _, text := range []string{"", "add x:int", "drop m", "drop n", "rename n k", "plain m", "optional on", "optional n"} {
		q, e := migrate.Program(s, p, editsOf(text)...)
		exprs, stmts := listsOf(q)
		if e != api.OK && e != api.ErrMany || drill.AnyTwoShare(exprs) || drill.AnyTwoShare(stmts) {
			t.Errorf("by %s: %d, and lists share memory", text, e)
		}
	}
}

// P23.8: edits that were parsed are new memory each time.
func TestParsedEditsShareNothing(t *testing.T) {
	text := "add f:int?; drop on; rename n k"
	one, _, _ := migrate.Parse(text)
	two, _, _ := migrate.Parse(text)
	if drill.Shares(one, two) {
		t.Error("two answers share memory")
	}
	drill.Overwrite(two, spareEdit)
	if !slices.Equal(one, editsOf(text)) {
		t.Errorf("what was done to one answer is seen in another: %v", one)
	}
	wantParse(t, text)
}

// R5: what is done to records that a store was carried over with, or that it gave, is not seen in either store.
func TestStoresShareNothing(t *testing.T) {
	numbers := drill.Numbers(363)
	sh := grown(t, drill.Schemas()[0], drill.Measures()[0], &numbers, 20)
	es := drill.Roomy(fittingEdits(&numbers, sh.Schema, 3), spareEdit)
	given := slices.Clone(es)
	x := sh.moves(drill.GeometryOf(sh.Config, 200), sh.Config, es)
	if !drill.AsItWas(es, given, spareEdit) {
		t.Errorf("edits were changed: %v, they were %v", es, given)
	}
	drill.Overwrite(es, spareEdit)
	first, _ := x.Scan("", "", 99)
	for _, entry := range first {
		drill.Overwrite(entry.Vals, spareValue)
	}
	drill.Overwrite(x.Schema().Fields, spareField)
	holds(t, "carried over", x, sh.edited(given))
	for key := range sh.Rows {
		if e := x.Delete(key); e != api.OK {
			t.Fatalf("Delete = %d", e)
		}
	}
	holds(t, "as it was", sh.Store, sh.Entries())
	holds(t, "emptied", x, nil)
}

// R4: a list that is nil and one without elements are the same.
func TestEmptyListsAreNone(t *testing.T) {
	s := drill.SchemaOf(exampleSchema)
	here := api.Expr{Op: api.EHere, Kids: []api.Expr{}}
	p := []api.Stmt{{Op: api.SNew, Exprs: []api.Expr{}, Then: []api.Stmt{}, Else: []api.Stmt{}}, drill.Choice(here, []api.Stmt{}, []api.Stmt{}), drill.Change(api.SSet, "on", here)}
	for _, text := range []string{"", "drop m", "optional n", "optional on", "plain m", "rename on off", "drop on"} {
		wantProgram(t, s, p, editsOf(text))
		for _, none := range [][]api.Stmt{nil, {}, make([]api.Stmt, 0, 4)} {
			wantProgramIs(t, s, none, editsOf(text), nil, api.OK)
		}
	}
	for _, none := range [][]api.Edit{nil, {}, make([]api.Edit, 0, 4)} {
		wantPrint(t, none)
		wantTarget(t, s, none)
		wantTarget(t, api.Schema{Fields: []api.Field{}}, none)
		wantRecord(t, s, drill.RowOf(s, "{n=5}").Vals, none)
		wantRecord(t, s, []api.Value{}, none)
		wantProgramIs(t, s, p, none, p, api.OK)
	}
}

// R2, R6: an answer hangs on its own arguments alone, whatever was asked before, and refused.
func TestCallsKnowNothingOfOneAnother(t *testing.T) {
	ints, bytes := drill.SchemaOf("n:int,m:int?"), drill.SchemaOf("m:bytes?,n:bytes")
	p := drill.ProgramOf("new; m = n")
	for range 3 {
		for _, text := range []string{"drop m; add m:bool", "plain m", "optional n", "rename n m", "drop n", "add x:int", "plain m; optional m; plain m"} {
			es := editsOf(text)
			wantParse(t, text)
			wantParse(t, text+";")
			for _, s := range []api.Schema{ints, bytes, {}} {
				wantTarget(t, s, es)
				wantRecord(t, s, []api.Value{{Kind: api.Int}, {}}, es)
				wantRecord(t, s, []api.Value{{}, {Kind: api.Bytes, S: "x"}}, es)
				if _, e := bookTarget(s, es); e == api.OK {
					wantProgram(t, s, p, es)
				}
			}
		}
	}
}
