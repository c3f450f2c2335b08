package meaning_test

import (
	"slices"
	"testing"

	"arbor/api"
	"arbor/drill"
	"arbor/meaning"
	"arbor/syntax"
	"arbor/typing"
)

// programsOf: many that fit, long and short ones, and each statement by itself.
func programsOf(s api.Schema, numbers *drill.Numbers) [][]api.Stmt {
	fitting := drill.Fitting{Schema: s, Numbers: numbers}
	var list [][]api.Stmt
	for _, st := range everyStmt(s) {
		list = append(list, []api.Stmt{st})
	}
	for i := range 3000 {
		if p := fitting.Program(2 + i%4); syntax.Check(p) == api.OK {
			list = append(list, p)
		}
	}
	return list
}

func hasDelete(p []api.Stmt) bool {
	_, stmts := drill.Parts(p)
	return slices.ContainsFunc(stmts, func(st *api.Stmt) bool { return st.Op == api.SDelete })
}

// P10.5: where there is a record ahead of a program and behind it, and it has no delete, what it does not write has the value that it had.
func TestWhatIsNotWrittenStays(t *testing.T) {
	numbers := drill.Numbers(107)
	for _, s := range drill.Schemas() {
		fitting := drill.Fitting{Schema: s, Numbers: &numbers}
		stayed, written := 0, 0
		for _, p := range programsOf(s, &numbers) {
			_, writes, _ := typing.Fields(s, p)
			row := api.Row{Here: true, Vals: fitting.Record()}
			got, _ := meaning.Run(s, p, row)
			if !got.Here || hasDelete(p) {
				continue
			}
			for i, f := range s.Fields {
				switch {
				case slices.Contains(writes, f.Name):
					written++
				case got.Vals[i] != row.Vals[i]:
					t.Fatalf("%s makes of %s %s", drill.Shown(p), drill.ShownRow(s, row), drill.ShownRow(s, got))
				default:
					stayed++
				}
			}
		}
		if stayed < 1000 || written < 1000 {
			t.Errorf("%d fields stayed, %d were written", stayed, written)
		}
	}
}

// P10.5: what a program does not read does not matter.
func TestWhatIsNotReadDoesNotMatter(t *testing.T) {
	numbers := drill.Numbers(108)
	for _, s := range drill.Schemas() {
		fitting := drill.Fitting{Schema: s, Numbers: &numbers}
		differed, alike := 0, 0
		for _, p := range programsOf(s, &numbers) {
			reads, _, _ := typing.Fields(s, p)
			for range 3 {
				row, other := api.Row{Here: true, Vals: fitting.Record()}, api.Row{Here: true, Vals: fitting.Record()}
				for i, f := range s.Fields {
					if slices.Contains(reads, f.Name) || numbers.Below(3) == 0 {
						other.Vals[i] = row.Vals[i]
					}
				}
				got, _ := meaning.Run(s, p, row)
				gotOther, _ := meaning.Run(s, p, other)
				if got.Here != gotOther.Here {
					t.Fatalf("%s makes of %s %s, but of %s %s", drill.Shown(p), drill.ShownRow(s, row), drill.ShownRow(s, got), drill.ShownRow(s, other), drill.ShownRow(s, gotOther))
				}
				for i := range got.Vals {
					switch {
					case row.Vals[i] != other.Vals[i]:
						differed++
					case got.Vals[i] != gotOther.Vals[i]:
						t.Fatalf("%s makes of %s %s, but of %s %s", drill.Shown(p), drill.ShownRow(s, row), drill.ShownRow(s, got), drill.ShownRow(s, other), drill.ShownRow(s, gotOther))
					default:
						alike++
					}
				}
			}
		}
		if differed < 1000 || alike < 1000 {
			t.Errorf("%d fields differed, %d were alike", differed, alike)
		}
	}
}
