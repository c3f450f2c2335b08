package machine_test

import (
	"slices"
	"testing"

	"arbor/api"
	"arbor/drill"
	"arbor/machine"
)

const exampleSchema = "n:int,m:int?,on:bool,tag:bytes?"

// The chapter's table of examples, line by line.
func TestExamples(t *testing.T) {
	s := drill.SchemaOf(exampleSchema)
	for _, x := range []struct {
		code, row, end string
		steps, deep    int
	}{
		{"", "none", "none", 0, 0},
		{"push 5; store 0", "{n=1}", "{n=5,on=false}", 2, 1},
		{"push 5; store 0", "none", "none", 2, 1},
		{"new; push 5; addto 1", "none", "{n=0,m=5,on=false}", 3, 1},
		{"here; unless 2; load 0; store 1", "{n=7}", "{n=7,m=7,on=false}", 4, 1},
		{"here; unless 2; load 0; store 1", "none", "none", 2, 1},
		{"has 1; unless 3; load 1; store 0; jump 1; delete", "{m=4}", "{n=4,m=4,on=false}", 5, 1},
		{"has 1; unless 3; load 1; store 0; jump 1; delete", "{n=4}", "none", 3, 1},
		{"push 2; push 3; push 4; mul; add; store 0", "{}", "{n=14,on=false}", 6, 3},
		{`bytes "ab"; bytes "b"; lt; store 2`, "{}", "{n=0,on=true}", 4, 2},
	} {
		is, row := drill.CodeOf(x.code), drill.RowOf(s, x.row)
		o, e := machine.Run(s, is, row)
		if got := drill.ShownRow(s, o.Row); e != api.OK || got != x.end || o.Steps != x.steps || o.Deep != x.deep {
			t.Errorf("Run(%s) on %s = %s, %d, %d, %d, want %s, %d, %d", x.code, x.row, got, o.Steps, o.Deep, e, x.end, x.steps, x.deep)
		}
		wantRun(t, s, is, row)
	}
	wantError(t, s, drill.CodeOf("push 1"), drill.RowOf(s, "{}"), api.ErrStack)
}

// The chapter's traces, and its row that is none.
func TestExamplesOfTraces(t *testing.T) {
	s := drill.SchemaOf(exampleSchema)
	is := drill.CodeOf("here; unless 2; load 0; store 1")
	steps, e := machine.Trace(s, is, drill.RowOf(s, "{n=7}"))
	if want := []api.Step{{At: 0}, {At: 1, Types: "b"}, {At: 2}, {At: 3, Types: "i"}}; e != api.OK || !slices.Equal(steps, want) {
		t.Errorf("Trace = %+v, %d, want %+v", steps, e, want)
	}
	steps, e = machine.Trace(s, is, api.Row{})
	if want := []api.Step{{At: 0}, {At: 1, Types: "b"}}; e != api.OK || !slices.Equal(steps, want) {
		t.Errorf("Trace = %+v, %d, want %+v", steps, e, want)
	}
	steps, e = machine.Trace(s, nil, api.Row{})
	if e != api.OK || len(steps) > 0 {
		t.Errorf("Trace of nothing = %+v, %d", steps, e)
	}
	wantError(t, s, is, api.Row{Here: true}, api.ErrValue)
}

// The examples of the whole whose codes are at hand: counters that wrap round, text that is cut, programs that find no record.
func TestFurtherRows(t *testing.T) {
	s := drill.SchemaOf(exampleSchema)
	for _, x := range [][3]string{
		{"push 1; addto 0", "{n=9223372036854775807}", "{n=-9223372036854775808,on=false}"},
		{"push -1; addto 1", "{m=-9223372036854775808}", "{n=0,m=9223372036854775807,on=false}"},
		{"push 5; addto 1", "{n=3}", "{n=3,m=5,on=false}"},
		{"push 5; addto 1", "none", "none"},
		{"load 0; neg; store 0", "{n=-9223372036854775808}", "{n=-9223372036854775808,on=false}"},
		{"load 0; load 0; mul; store 0", "{n=4294967296}", "{n=0,on=false}"},
		{"push 2; push 3; sub; store 0", "{}", "{n=-1,on=false}"},
		{"push -2; push 3; min; push -7; max; store 0", "{}", "{n=-2,on=false}"},
		{`load 3; bytes "xyz"; cat; store 3`, `{tag="0123456789abcdefgh"}`, `{n=0,on=false,tag="0123456789abcdefghxy"}`},
		{`load 3; bytes "xyz"; cat; store 3`, "{}", `{n=0,on=false,tag="xyz"}`},
		{"load 3; len; store 0", `{tag="ab\x00"}`, `{n=3,on=false,tag="ab\x00"}`},
		{"has 3; store 2", `{tag=""}`, `{n=0,on=true,tag=""}`},
		{"has 3; new; store 2", "none", "{n=0,on=false}"},
		{"here; new; store 2; here; store 2", "none", "{n=0,on=true}"},
		{"load 1; store 1", "{}", "{n=0,m=0,on=false}"},
		{"load 2; not; store 2", "{on=true}", "{n=0,on=false}"},
		{"clear 1; clear 1; clear 3", `{m=1,tag="x"}`, "{n=0,on=false}"},
		{"delete; clear 1; push 1; store 0; true; store 2; push 1; addto 1", "{n=4}", "none"},
		{"delete; new", `{n=4,m=1,on=true,tag="x"}`, "{n=0,on=false}"},
		{"new; new", `{n=4,m=1}`, "{n=4,m=1,on=false}"},
		{`bytes "a"; bytes "ab"; le; store 2`, "{}", "{n=0,on=true}"},
		{`bytes "\xff"; bytes "\x7f"; lt; store 2`, "{on=true}", "{n=0,on=false}"},
		{"push -1; push 0; lt; store 2", "{}", "{n=0,on=true}"},
		{"push 3; push 3; le; store 2", "{}", "{n=0,on=true}"},
		{"push 3; push 3; lt; store 2", "{on=true}", "{n=0,on=false}"},
		{"true; false; eq; store 2", "{on=true}", "{n=0,on=false}"},
		{"false; false; eq; store 2", "{}", "{n=0,on=true}"},
		{`bytes ""; bytes ""; eq; store 2`, "{}", "{n=0,on=true}"},
	} {
		if got := drill.ShownRow(s, wantRun(t, s, drill.CodeOf(x[0]), drill.RowOf(s, x[1])).Row); got != x[2] {
			t.Errorf("%s makes of %s: %s, want %s", x[0], x[1], got, x[2])
		}
	}
}
