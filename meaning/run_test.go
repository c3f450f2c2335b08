package meaning_test

import (
	"slices"
	"strings"
	"testing"

	"arbor/api"
	"arbor/drill"
	"arbor/meaning"
	"arbor/syntax"
	"arbor/typing"
)

// plainLeaves: expressions without kids that are plain and of a type.
func plainLeaves(s api.Schema, of int) []api.Expr {
	var list []api.Expr
	for _, v := range drill.Values(of) {
		list = append(list, drill.Literal(v))
	}
	for _, f := range s.Fields {
		if f.Type == of && !f.Optional {
			list = append(list, drill.Field(f.Name))
		}
		if f.Optional && of == api.Bool {
			list = append(list, api.Expr{Op: api.EHas, S: f.Name})
		}
	}
	if of == api.Bool {
		list = append(list, drill.Here())
	}
	return list
}

// everyStmt: each statement over each field and each short expression that fits.
func everyStmt(s api.Schema) []api.Stmt {
	list := []api.Stmt{{Op: api.SNew}, {Op: api.SDelete}}
	for _, f := range s.Fields {
		leaves := plainLeaves(s, f.Type)
		if f.Optional {
			list = append(list, api.Stmt{Op: api.SClear, Field: f.Name}, drill.Change(api.SSet, f.Name, drill.Field(f.Name)))
		}
		for _, e := range leaves {
			list = append(list, drill.Change(api.SSet, f.Name, e))
			for _, op := range []int{api.SAdd, api.SMin, api.SMax} {
				if f.Type == api.Int {
					list = append(list, drill.Change(op, f.Name, e))
				}
			}
		}
	}
	for _, e := range plainLeaves(s, api.Bool) {
		list = append(list, drill.Choice(e, drill.ProgramOf("n = 1"), drill.ProgramOf("delete")), drill.Choice(e, nil, drill.ProgramOf("new")), drill.Choice(e, drill.ProgramOf("new"), nil))
	}
	return list
}

// P10.2: every statement on rows of every kind.
func TestRunOfEveryStmt(t *testing.T) {
	for _, s := range drill.Schemas() {
		rows := drill.Rows(s)
		for _, st := range everyStmt(s) {
			for _, row := range rows {
				wantBookRun(t, s, []api.Stmt{st}, row)
			}
		}
	}
}

// P10.2: += , min= and max= of every two ints, and of an absent field.
func TestChangesOfEveryTwoInts(t *testing.T) {
	s := drill.SchemaOf("n:int,m:int?,by:int")
	ints := drill.Values(api.Int)
	for _, a := range append(ints, api.Value{}) {
		for _, b := range ints {
			row := api.Row{Here: true, Vals: []api.Value{number(a.N), a, b}}
			for _, name := range []string{"n", "m"} {
				for _, op := range []int{api.SSet, api.SAdd, api.SMin, api.SMax} {
					wantBookRun(t, s, []api.Stmt{drill.Change(op, name, drill.Field("by"))}, row)
					wantBookRun(t, s, []api.Stmt{drill.Change(op, name, drill.Literal(b))}, row)
				}
				wantBookRun(t, s, []api.Stmt{drill.Change(api.SSet, name, drill.Field("by")), drill.Change(api.SAdd, name, drill.Field("n"))}, row)
			}
		}
	}
}

// P10.2: an optional field becomes what another one is, absent too.
func TestOptionalFieldsIntoOthers(t *testing.T) {
	for _, text := range []string{"a:int?,b:int?,c:int?", "a:bool?,b:bool?,c:bool?", "a:bytes?,b:bytes?"} {
		s := drill.SchemaOf(text)
		p := drill.ProgramOf("a = b; b = a")
		if len(s.Fields) > 2 {
			p = drill.ProgramOf("a = b; b = c; c = a")
		}
		for _, row := range drill.Rows(s) {
			wantBookRun(t, s, p, row)
			wantBookRun(t, s, p[:1], row)
		}
	}
	s := drill.SchemaOf("a:int?,b:int?")
	wantRun(t, s, drill.ProgramOf("a = b"), drill.RowOf(s, "{a=1}"), drill.RowOf(s, "{}"), api.OK)
	wantRun(t, s, drill.ProgramOf("b = a"), drill.RowOf(s, "{a=1}"), drill.RowOf(s, "{a=1,b=1}"), api.OK)
}

// P10.2: every row of three statements out of some: each works on what the one ahead of it made.
func TestRunOfEveryThreeStatements(t *testing.T) {
	s := drill.SchemaOf(exampleSchema)
	var list []api.Stmt
	for _, src := range []string{
		"new", "delete", "clear m", "clear tag", "m = m", "m += 1", "m min= n", "n max= m ?? 5", "n = n * 3 - (m ?? 1)", "on = here and has m", "on = not on",
		`tag = cat(tag ?? "", "xy")`, "n += len(tag ?? \"abc\")", "if has m { clear m } else { m = 9 }", "if on { delete } else { new; n = 2 }", "if here { if n > 1 { on = true } } else { new; tag = \"\" }",
	} {
		list = append(list, drill.ProgramOf(src)...)
	}
	rows := []api.Row{{}, drill.RowOf(s, "{}"), drill.RowOf(s, `{n=-7,m=3,on=true}`), drill.RowOf(s, `{n=9223372036854775807,m=0,tag="abcdefghijklmnopqrs"}`)}
	drill.Scripts(list, 3, func(p []api.Stmt) {
		for _, row := range rows {
			wantBookRun(t, s, p, row)
		}
	})
}

// P10.2: of an if the one block or the other takes place, by the condition on the row as it is ahead of it; ifs in one another.
func TestRunOfEveryIf(t *testing.T) {
	s := drill.SchemaOf(exampleSchema)
	conditions := []string{"here", "on", "has m", "n < 2 or has tag", "not (here and n == (m ?? n))"}
	blocks := [][]api.Stmt{nil}
	for _, src := range []string{"on = not on", "delete", "new; n = 7", "clear m; n += 1", "if on { n = 1 } else { m = 2; on = true }", "if has m { delete } else { if here { m = 3 } else { new } }"} {
		blocks = append(blocks, drill.ProgramOf(src))
	}
	rows := []api.Row{{}}
	for _, text := range []string{"{}", "{n=1,on=true}", "{n=2,m=2}", `{n=5,m=0,on=true,tag="t"}`} {
		rows = append(rows, drill.RowOf(s, text))
	}
	for _, src := range conditions {
		drill.Scripts(blocks, 3, func(script [][]api.Stmt) {
			for _, row := range rows {
				wantBookRun(t, s, append([]api.Stmt{drill.Choice(drill.ExprOf(src), script[0], script[1])}, script[2]...), row)
			}
		})
	}
}

// P10.2, P10.4: programs of all kinds on rows of all kinds.
func TestRunOfDeepPrograms(t *testing.T) {
	numbers := drill.Numbers(103)
	for _, s := range drill.Schemas() {
		fitting := drill.Fitting{Schema: s, Numbers: &numbers}
		ran, here := 0, 0
		for i := range 6000 {
			p := fitting.Program(2 + i%4)
			if syntax.Check(p) != api.OK {
				continue
			}
			for range 3 {
				row := fitting.Row()
				wantBookRun(t, s, p, row)
				got, _ := meaning.Run(s, p, row)
				ran++
				if got.Here {
					here++
				}
			}
		}
		if ran < 10000 || here < ran/5 || here > ran*4/5 {
			t.Errorf("%d programs ran, of which %d left a record", ran, here)
		}
	}
}

// As many statements as may be, as deep as may be: each has its effect.
func TestGreatestPrograms(t *testing.T) {
	s := drill.SchemaOf(exampleSchema)
	wantRun(t, s, slices.Repeat(drill.ProgramOf("n += 3"), api.MaxStmts), drill.RowOf(s, "{n=1}"), drill.RowOf(s, "{n=97}"), api.OK)
	wantRun(t, s, slices.Repeat(drill.ProgramOf("n = n + n"), api.MaxStmts), drill.RowOf(s, "{n=-5}"), drill.RowOf(s, "{n=-21474836480}"), api.OK)
	p, want := drill.ProgramOf("n += 1"), int64(1)
	for range api.MaxDepth - 2 {
		p = []api.Stmt{drill.Choice(drill.Here(), p, drill.ProgramOf("new")), drill.ProgramOf("n += 1")[0]}
		want++
		wantRun(t, s, p, drill.RowOf(s, "{}"), api.Row{Here: true, Vals: []api.Value{number(want), {}, truth(false), {}}}, api.OK)
		wantRun(t, s, p, api.Row{}, drill.RowOf(s, "{n=1}"), api.OK)
	}
	if errno := syntax.Check([]api.Stmt{drill.Choice(drill.Here(), p, nil)}); errno != api.ErrDepth {
		t.Errorf("a deeper program would be %d", errno)
	}
}

// P10.2: the errors of what is one part away from a program that fits are those of typing, ahead of the row's.
func TestErrorsOfRunAreThoseOfCheck(t *testing.T) {
	numbers := drill.Numbers(104)
	for _, s := range drill.Schemas() {
		fitting := drill.Fitting{Schema: s, Numbers: &numbers}
		met := map[api.Errno]int{}
		for i := range 4000 {
			p := fitting.Program(2 + i%3)
			exprs, stmts := drill.Parts(p)
			if len(exprs) > 0 && i%4 > 0 {
				fitting.Spoil(drill.Pick(&numbers, exprs))
			} else if len(stmts) > 0 {
				drill.Pick(&numbers, stmts).Field = drill.Pick(&numbers, strings.Fields("x n tag on"))
			}
			errno, _ := typing.Check(s, p)
			met[errno]++
			if errno == api.OK {
				wantBookRun(t, s, p, fitting.Row())
				errno = api.ErrValue
			} else {
				wantRun(t, s, p, fitting.Row(), api.Row{}, errno)
			}
			wantRun(t, s, p, api.Row{Here: true}, api.Row{}, errno)
		}
		for _, errno := range []api.Errno{api.OK, api.ErrTree, api.ErrField, api.ErrType, api.ErrOptional} {
			if met[errno] == 0 {
				t.Errorf("no program answered %d: %v", errno, met)
			}
		}
	}
}

// P10.2, P10.3, R9: a schema that is none comes ahead of all, then what is wrong with the tree, then what does not fit, then the row.
func TestOrderOfErrorsOfRun(t *testing.T) {
	s := drill.Schemas()[0]
	right, wrong := drill.RowOf(s, "{n=1}"), api.Row{Vals: []api.Value{number(1)}}
	for _, row := range []api.Row{right, wrong} {
		for _, w := range drill.WrongPrograms() {
			wantRun(t, s, w.Part, row, api.Row{}, w.Errno)
			wantRun(t, api.Schema{}, w.Part, row, api.Row{}, api.ErrSchema)
			wantChain(t, s, row, api.Row{}, w.Errno, drill.ProgramOf("delete"), w.Part)
			wantChain(t, api.Schema{}, row, api.Row{}, api.ErrSchema, w.Part)
		}
		for _, none := range drill.WrongSchemas() {
			for _, src := range []string{"", "new", "n = 1", "x = 1"} {
				wantRun(t, none, drill.ProgramOf(src), row, api.Row{}, api.ErrSchema)
				wantChain(t, none, row, api.Row{}, api.ErrSchema, drill.ProgramOf(src))
			}
			wantChain(t, none, row, api.Row{}, api.ErrSchema)
			wantChain(t, none, api.Row{}, api.Row{}, api.ErrSchema)
		}
		wantRun(t, s, drill.ProgramOf("new; x = 1"), row, api.Row{}, api.ErrField)
		wantRun(t, s, drill.ProgramOf("new; n = on"), row, api.Row{}, api.ErrType)
		wantRun(t, s, drill.ProgramOf("if here { } else { clear n }"), row, api.Row{}, api.ErrOptional)
	}
	wantRun(t, s, nil, wrong, api.Row{}, api.ErrValue)
}
