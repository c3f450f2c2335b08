package meaning_test

import (
	"testing"

	"arbor/api"
	"arbor/drill"
)

// The chapter's examples, line by line.

const exampleSchema = "n:int,m:int?,on:bool,tag:bytes?"

func TestExamplesOfPrograms(t *testing.T) {
	s := drill.SchemaOf(exampleSchema)
	for _, x := range []struct{ src, row, want string }{
		{``, `{n=5}`, `{n=5,on=false}`},
		{`n += 1`, `none`, `none`},
		{`new; n += 1`, `none`, `{n=1,on=false}`},
		{`new; n += 1`, `{n=5}`, `{n=6,on=false}`},
		{`n = 9223372036854775807; n += 1`, `{}`, `{n=-9223372036854775808,on=false}`},
		{`n = -n`, `{n=-9223372036854775808}`, `{n=-9223372036854775808,on=false}`},
		{`m += 3`, `{}`, `{n=0,m=3,on=false}`},
		{`m min= 3; m max= 7`, `{}`, `{n=0,m=7,on=false}`},
		{`m = m; clear tag`, `{m=0,tag=""}`, `{n=0,m=0,on=false}`},
		{`if has m { n = m ?? 9 } else { n = 8 }`, `{}`, `{n=8,on=false}`},
		{`tag = cat("abcdefghijklmnopqr", "stuv")`, `{}`, `{n=0,on=false,tag="abcdefghijklmnopqrst"}`},
		{`delete; n += 1; new; on = here and n == 0`, `{n=5,tag="x"}`, `{n=0,on=true}`},
		{`if n < 0 or on { delete }`, `{n=1,on=true}`, `none`},
		{`on = "ab" < "b" and "a" < "ab" and not "" < ""`, `{}`, `{n=0,on=true}`},
	} {
		row, want := drill.RowOf(s, x.row), drill.RowOf(s, x.want)
		wantRun(t, s, drill.ProgramOf(x.src), row, want, api.OK)
		wantBookRun(t, s, drill.ProgramOf(x.src), row)
		wantChain(t, s, row, want, api.OK, drill.ProgramOf(x.src))
	}
}

func TestExamplesOfExprs(t *testing.T) {
	s := drill.SchemaOf(exampleSchema)
	for _, x := range []struct {
		src, row string
		want     api.Value
	}{
		{"m", "{n=5}", api.Value{}},
		{"m ?? n", "{n=5}", number(5)},
		{"n", "none", number(0)},
		{"has tag", "none", truth(false)},
		{"pick(here, 1, 2)", "none", number(2)},
		{"n * n", "{n=4294967296}", number(0)},
	} {
		wantValue(t, s, drill.ExprOf(x.src), drill.RowOf(s, x.row), x.want, api.OK)
		wantBookValue(t, s, drill.ExprOf(x.src), drill.RowOf(s, x.row))
	}
}

func TestExamplesOfErrors(t *testing.T) {
	s := drill.SchemaOf(exampleSchema)
	for _, row := range []string{"none", "{}", "{m=1}"} {
		wantRun(t, s, drill.ProgramOf("n = m"), drill.RowOf(s, row), api.Row{}, api.ErrOptional)
	}
	wantRun(t, s, drill.ProgramOf("n += 1"), api.Row{Vals: []api.Value{number(1)}}, api.Row{}, api.ErrValue)
}
