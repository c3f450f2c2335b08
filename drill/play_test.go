package drill_test

import (
	"slices"
	"testing"

	"arbor/api"
	"arbor/drill"
)

// Each instruction does what the table says, on a record and on none.
func TestPlay(t *testing.T) {
	s := drill.SchemaOf("n:int,m:int?,on:bool,tag:bytes?")
	for _, c := range [][3]string{
		{"", "none", "none"},
		{"", "{n=1}", "{n=1,on=false}"},
		{"push -5; store 0", "{n=1}", "{n=-5,on=false}"},
		{"push 5; store 1", "{n=1}", "{n=1,m=5,on=false}"},
		{"push 5; store 0", "none", "none"},
		{"true; store 2; false; store 2", "{on=true}", "{n=0,on=false}"},
		{"true; store 2", "{}", "{n=0,on=true}"},
		{`bytes "ab"; store 3`, "{}", `{n=0,on=false,tag="ab"}`},
		{"load 1; store 0", "{n=1}", "{n=0,on=false}"},
		{"load 1; store 0", "{n=1,m=3}", "{n=3,m=3,on=false}"},
		{"load 0; new; store 0", "none", "{n=0,on=false}"},
		{"has 1; store 2", "{m=0}", "{n=0,m=0,on=true}"},
		{"has 1; store 2", "{on=true}", "{n=0,on=false}"},
		{"has 1; new; store 2", "none", "{n=0,on=false}"},
		{"here; new; store 2", "none", "{n=0,on=false}"},
		{"here; not; store 2; here; store 2", "{}", "{n=0,on=true}"},
		{"here; not; store 2", "{on=true}", "{n=0,on=false}"},
		{"load 0; neg; store 0", "{n=-9223372036854775808}", "{n=-9223372036854775808,on=false}"},
		{"push 7; push 2; add; store 0", "{}", "{n=9,on=false}"},
		{"push 7; push 2; sub; store 0", "{}", "{n=5,on=false}"},
		{"push 7; push 2; mul; store 0", "{}", "{n=14,on=false}"},
		{"push 7; push 2; min; store 0", "{}", "{n=2,on=false}"},
		{"push 7; push 2; max; store 0", "{}", "{n=7,on=false}"},
		{"push 7; push 2; lt; store 2", "{on=true}", "{n=0,on=false}"},
		{"push -7; push 2; lt; store 2", "{}", "{n=0,on=true}"},
		{"push 2; push 2; le; store 2", "{}", "{n=0,on=true}"},
		{"push 3; push 2; le; store 2", "{on=true}", "{n=0,on=false}"},
		{`bytes "a"; bytes "ab"; lt; store 2`, "{}", "{n=0,on=true}"},
		{`bytes "b"; bytes "ab"; le; store 2`, "{on=true}", "{n=0,on=false}"},
		{`bytes "b"; bytes "b"; eq; store 2`, "{}", "{n=0,on=true}"},
		{"true; false; eq; store 2", "{on=true}", "{n=0,on=false}"},
		{`bytes "abc"; len; store 0`, "{}", "{n=3,on=false}"},
		{`bytes "abcdefghijklmnopqr"; bytes "stuv"; cat; store 3`, "{}", `{n=0,on=false,tag="abcdefghijklmnopqrst"}`},
		{"push 3; addto 0; push 4; addto 1", "{n=9223372036854775807}", "{n=-9223372036854775806,m=4,on=false}"},
		{"push 3; addto 0", "none", "none"},
		{"clear 1; clear 3", `{m=1,tag="x"}`, "{n=0,on=false}"},
		{"clear 1", "none", "none"},
		{"new", "{n=4}", "{n=4,on=false}"},
		{"delete", "{n=4}", "none"},
		{"delete; new", `{n=4,m=1,on=true,tag="x"}`, "{n=0,on=false}"},
		{"jump 1; delete; push 1; addto 0", "{}", "{n=1,on=false}"},
		{"jump 0; delete", "{}", "none"},
		{"here; unless 2; push 1; jump 1; push 2; store 0", "{}", "{n=1,on=false}"},
		{"has 1; unless 2; push 1; jump 1; push 2; store 0", "{}", "{n=2,on=false}"},
		{"push 1; addto 0; here; unless 2; jump 1; delete; push 1; addto 0", "{}", "{n=2,on=false}"},
	} {
		if got := drill.ShownRow(s, drill.Play(s, drill.CodeOf(c[0]), drill.RowOf(s, c[1]))); got != c[2] {
			t.Errorf("%s makes of %s: %s, want %s", c[0], c[1], got, c[2])
		}
	}
}

// A row that is handed in stays as it is.
func TestPlayChangesNoArgument(t *testing.T) {
	s := drill.SchemaOf("n:int,m:int?")
	row := drill.RowOf(s, "{n=1,m=2}")
	drill.Play(s, drill.CodeOf("push 5; store 0; clear 1; delete; new; push 7; addto 0"), row)
	if want := drill.RowOf(s, "{n=1,m=2}"); !slices.Equal(row.Vals, want.Vals) || !row.Here {
		t.Errorf("the row became %+v", row)
	}
	got := drill.Play(s, nil, row)
	got.Vals[0] = api.Value{}
	if want := drill.RowOf(s, "{n=1,m=2}"); !slices.Equal(row.Vals, want.Vals) {
		t.Errorf("the row became %+v", row)
	}
}

// Messages do to a row what their kinds say, one behind the other.
func TestPlayMessages(t *testing.T) {
	s := drill.SchemaOf("n:int,m:int?")
	for _, c := range []struct {
		row, end string
		texts    []string
	}{
		{"{n=1}", "{n=1}", nil}, {"none", "none", nil},
		{"{n=1,m=2}", "{n=4}", []string{"put k {n=4}"}}, {"none", "{n=4}", []string{"put k {n=4}"}},
		{"{n=1}", "none", []string{"delete k"}}, {"{n=1}", "{n=6}", []string{"upsert k push 5; addto 0"}},
		{"none", "{n=9,m=1}", []string{"put k {n=4,m=1}", "upsert j push 5; addto 0"}},
		{"none", "{n=0}", []string{"put k {n=4}", "delete k", "upsert k new"}},
	} {
		var ms []api.Message
		for _, text := range c.texts {
			ms = append(ms, drill.MessageOf(s, text))
		}
		if got := drill.ShownRow(s, drill.PlayMessages(s, drill.RowOf(s, c.row), ms...)); got != c.end {
			t.Errorf("%q make of %s: %s, want %s", c.texts, c.row, got, c.end)
		}
	}
	put := drill.MessageOf(s, "put k {n=4}")
	drill.PlayMessages(s, api.Row{}, put).Vals[0].N = 5
	if put.Vals[0].N != 4 {
		t.Error("what was done to a row is seen in the put that made it")
	}
}
