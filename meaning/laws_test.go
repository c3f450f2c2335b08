package meaning_test

import (
	"slices"
	"testing"

	"arbor/api"
	"arbor/drill"
	"arbor/meaning"
	"arbor/syntax"
	"arbor/typing"
)

// What the chapter says that follows.

// wantAlike: two programs make the same of rows of all kinds.
func wantAlike(t *testing.T, s api.Schema, rows []api.Row, p, other []api.Stmt) {
	t.Helper()
	if syntax.Check(p) != api.OK || syntax.Check(other) != api.OK {
		return
	}
	for _, row := range rows {
		got, errno := meaning.Run(s, p, row)
		if errno != api.OK {
			t.Fatalf("Run of %s: %d", drill.Shown(p), errno)
		}
		wantRun(t, s, other, row, got, api.OK)
	}
}

// someRows: none, and some with records.
func someRows(fitting drill.Fitting) []api.Row {
	rows := []api.Row{{}}
	for range 4 {
		rows = append(rows, api.Row{Here: true, Vals: fitting.Record()})
	}
	return rows
}

func TestOneListIsChainOfTwo(t *testing.T) {
	numbers := drill.Numbers(111)
	for _, s := range drill.Schemas() {
		fitting := drill.Fitting{Schema: s, Numbers: &numbers}
		for range 1000 {
			p, other := fitting.Program(4), fitting.Program(4)
			whole := slices.Concat(p, other)
			if syntax.Check(whole) != api.OK {
				continue
			}
			for _, row := range someRows(fitting) {
				want, errno := meaning.Run(s, whole, row)
				wantChain(t, s, row, want, errno, p, other)
			}
		}
	}
}

func TestIfWithTheSameBothWays(t *testing.T) {
	numbers := drill.Numbers(112)
	for _, s := range drill.Schemas() {
		fitting := drill.Fitting{Schema: s, Numbers: &numbers}
		for range 1000 {
			p := fitting.Program(3)
			wantAlike(t, s, someRows(fitting), []api.Stmt{drill.Choice(fitting.Expr(api.Bool, 4), p, p)}, p)
		}
	}
}

func TestNoRecordWithoutNew(t *testing.T) {
	numbers := drill.Numbers(113)
	for _, s := range drill.Schemas() {
		fitting := drill.Fitting{Schema: s, Numbers: &numbers}
		for range 2000 {
			p := fitting.Program(4)
			_, stmts := drill.Parts(p)
			if syntax.Check(p) == api.OK && !slices.ContainsFunc(stmts, func(st *api.Stmt) bool { return st.Op == api.SNew }) {
				wantRun(t, s, p, api.Row{}, api.Row{}, api.OK)
			}
		}
	}
}

func TestBehindDeleteAllRowsAreOne(t *testing.T) {
	numbers := drill.Numbers(114)
	for _, s := range drill.Schemas() {
		fitting := drill.Fitting{Schema: s, Numbers: &numbers}
		for range 1000 {
			p := append(drill.ProgramOf("delete; new"), fitting.Program(4)...)
			if numbers.Below(2) == 0 {
				p = slices.Delete(p, 1, 2)
			}
			if syntax.Check(p) != api.OK {
				continue
			}
			want, _ := meaning.Run(s, p, api.Row{})
			for _, row := range someRows(fitting) {
				wantRun(t, s, p, row, want, api.OK)
			}
		}
	}
}

func TestFieldsAsTheyAre(t *testing.T) {
	for _, s := range drill.Schemas() {
		for _, row := range drill.Rows(s) {
			for place, f := range s.Fields {
				wantRun(t, s, []api.Stmt{drill.Change(api.SSet, f.Name, drill.Field(f.Name))}, row, row, api.OK)
				if f.Type != api.Int {
					continue
				}
				want := api.Row{Here: row.Here, Vals: slices.Clone(row.Vals)}
				if row.Here {
					want.Vals[place].Kind = api.Int
				}
				wantRun(t, s, []api.Stmt{drill.Change(api.SAdd, f.Name, drill.Number(0))}, row, want, api.OK)
			}
		}
	}
}

func TestTwoSumsAreOne(t *testing.T) {
	numbers := drill.Numbers(115)
	s := drill.Schemas()[0]
	fitting := drill.Fitting{Schema: s, Numbers: &numbers}
	held := 0
	for range 3000 {
		name := drill.Pick(&numbers, []string{"n", "m"})
		a, b := fitting.Expr(api.Int, 4), fitting.Expr(api.Int, 4)
		reads, _, _ := typing.Fields(s, []api.Stmt{drill.Change(api.SSet, "n", b)})
		if slices.Contains(reads, name) {
			continue
		}
		held++
		two := []api.Stmt{drill.Change(api.SAdd, name, a), drill.Change(api.SAdd, name, b)}
		one := []api.Stmt{drill.Change(api.SAdd, name, drill.Tree(api.EAdd, a, b))}
		wantAlike(t, s, someRows(fitting), two, one)
	}
	if held < 1000 {
		t.Errorf("%d sums alone", held)
	}
}

func TestLengthOfCat(t *testing.T) {
	numbers := drill.Numbers(116)
	for _, s := range drill.Schemas() {
		fitting := drill.Fitting{Schema: s, Numbers: &numbers}
		for range 1000 {
			a, b := fitting.Expr(api.Bytes, 4), fitting.Expr(api.Bytes, 4)
			length := func(e api.Expr) api.Expr { return drill.Tree(api.ELen, e) }
			is := length(drill.Tree(api.ECat, a, b))
			says := drill.Tree(api.EMin, drill.Tree(api.EAdd, length(a), length(b)), drill.Number(api.MaxBytes))
			for _, row := range someRows(fitting) {
				wantValue(t, s, drill.Tree(api.EEq, is, says), row, truth(true), api.OK)
			}
		}
	}
}
