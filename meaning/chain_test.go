package meaning_test

import (
	"slices"
	"testing"

	"arbor/api"
	"arbor/drill"
	"arbor/meaning"
	"arbor/syntax"
)

// P10.3: each program works on what the one ahead of it made, whatever their number.
func TestChainIsOneRunBehindTheOther(t *testing.T) {
	numbers := drill.Numbers(105)
	for _, s := range drill.Schemas() {
		fitting := drill.Fitting{Schema: s, Numbers: &numbers}
		for i := range 2000 {
			row := fitting.Row()
			want := row
			var ps [][]api.Stmt
			for len(ps) < i%6 {
				if p := fitting.Program(3); syntax.Check(p) == api.OK {
					ps = append(ps, p)
					want = rowOf(s, bookRun(s, p, recordOf(s, want)))
				}
			}
			wantChain(t, s, row, want, api.OK, ps...)
		}
	}
}

// P10.3: without programs, and of programs without statements: the row itself.
func TestChainOfNothing(t *testing.T) {
	for _, s := range drill.Schemas() {
		for _, row := range drill.Rows(s) {
			wantChain(t, s, row, row, api.OK)
			wantChain(t, s, row, row, api.OK, nil)
			wantChain(t, s, row, row, api.OK, []api.Stmt{}, nil, []api.Stmt{})
			wantRun(t, s, nil, row, row, api.OK)
		}
	}
}

// P10.3: programs have bounds one by one, not together.
func TestChainOfManyPrograms(t *testing.T) {
	s := drill.SchemaOf(exampleSchema)
	long := slices.Repeat(drill.ProgramOf("n += 1"), api.MaxStmts)
	ps := slices.Repeat([][]api.Stmt{long}, 1000)
	wantChain(t, s, drill.RowOf(s, "{m=1}"), drill.RowOf(s, "{n=32000,m=1}"), api.OK, ps...)
	wantChain(t, s, api.Row{}, api.Row{}, api.OK, ps...)
	ps = append(ps, drill.ProgramOf("n = m"))
	wantChain(t, s, drill.RowOf(s, "{m=1}"), api.Row{}, api.ErrOptional, ps...)
	wantChain(t, s, api.Row{}, drill.RowOf(s, "{n=30000}"), api.OK, slices.Repeat([][]api.Stmt{drill.ProgramOf("new; n += 1")}, 30000)...)
}

// P10.3: the first program that does not fit is told, ahead of the row's error, whatever stands behind it.
func TestOrderOfErrorsOfChain(t *testing.T) {
	s := drill.SchemaOf(exampleSchema)
	type told struct {
		p     []api.Stmt
		errno api.Errno
	}
	list := []told{
		{drill.ProgramOf("n += 1"), api.OK}, {nil, api.OK}, {drill.ProgramOf("delete"), api.OK},
		{drill.ProgramOf("n = m"), api.ErrOptional}, {drill.ProgramOf("x = 1"), api.ErrField}, {drill.ProgramOf("n = on"), api.ErrType},
		{[]api.Stmt{{Op: 99}}, api.ErrTree}, {slices.Repeat(drill.ProgramOf("new"), 33), api.ErrMany},
		{[]api.Stmt{drill.Change(api.SSet, "on", drill.Nested(api.ENot, 11, drill.Here()))}, api.ErrDepth},
	}
	right, wrong := drill.RowOf(s, `{n=1,tag="a"}`), api.Row{Here: true}
	for length := range 4 {
		drill.Scripts(list, length, func(script []told) {
			var ps [][]api.Stmt
			errno := api.OK
			for _, part := range script {
				ps = append(ps, part.p)
				if errno == api.OK {
					errno = part.errno
				}
			}
			wantChain(t, api.Schema{}, right, api.Row{}, api.ErrSchema, ps...)
			if errno != api.OK {
				wantChain(t, s, right, api.Row{}, errno, ps...)
				wantChain(t, s, wrong, api.Row{}, errno, ps...)
				return
			}
			wantChain(t, s, right, rowOf(s, bookRun(s, slices.Concat(ps...), recordOf(s, right))), api.OK, ps...)
			wantChain(t, s, wrong, api.Row{}, api.ErrValue, ps...)
		})
	}
}

// Run is Chain of one program.
func TestRunIsChainOfOne(t *testing.T) {
	numbers := drill.Numbers(106)
	for _, s := range drill.Schemas() {
		fitting := drill.Fitting{Schema: s, Numbers: &numbers}
		for range 1000 {
			p, row := fitting.Program(4), fitting.Row()
			got, errno := meaning.Run(s, p, row)
			wantChain(t, s, row, got, errno, p)
		}
	}
}
