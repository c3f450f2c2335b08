package drill_test

import (
	"slices"
	"testing"

	"arbor/api"
	"arbor/drill"
	"arbor/value"
)

// Rows are of the schema, wrong ones are not, and both have records and none.
func TestRowsAndWrongRows(t *testing.T) {
	for _, s := range drill.Schemas() {
		rows := drill.Rows(s)
		if len(rows) != 1+len(drill.Records(s)) || rows[0].Here {
			t.Errorf("%d rows, the first one %+v", len(rows), rows[0])
		}
		for _, row := range rows {
			if drill.ShownRow(s, row) == "no row of the schema" {
				t.Errorf("%+v is no row of the schema", row)
			}
		}
		bare := 0
		for _, row := range drill.WrongRows(s) {
			if drill.ShownRow(s, row) != "no row of the schema" {
				t.Errorf("%s is a row of the schema", drill.ShownRow(s, row))
			}
			if !row.Here {
				bare++
			}
		}
		for _, vals := range drill.WrongRecords(s) {
			if value.Check(s, vals) != api.ErrValue {
				t.Errorf("%+v is a record of the schema", vals)
			}
		}
		if bare < 3 {
			t.Errorf("only %d of the wrong rows are without a record", bare)
		}
	}
}

// Among the rows of a Fitting are none, the zero record, one with all fields, and as many more as were asked for.
func TestRowsOfFitting(t *testing.T) {
	numbers := drill.Numbers(13)
	for _, s := range drill.Schemas() {
		fitting := drill.Fitting{Schema: s, Numbers: &numbers}
		rows, none, zero, full := fitting.Rows(20), 0, 0, 0
		for _, row := range rows {
			switch {
			case drill.ShownRow(s, row) == "no row of the schema":
				t.Errorf("%+v is no row of the schema", row)
			case !row.Here:
				none++
			case slices.Equal(row.Vals, value.Zero(s)):
				zero++
			case !slices.ContainsFunc(row.Vals, func(v api.Value) bool { return v.Kind == api.None }):
				full++
			}
		}
		if none == 0 || zero == 0 || full == 0 || len(rows) != len(fitting.Rows(0))+20 {
			t.Errorf("of %d rows %d have no record, %d the zero record, %d all fields", len(rows), none, zero, full)
		}
	}
}

func TestSameRow(t *testing.T) {
	s := drill.Schemas()[0]
	rows := append(drill.Rows(s), drill.WrongRows(s)[:5]...)
	for _, a := range rows {
		if !drill.SameRow(a, api.Row{Here: a.Here, Vals: slices.Clone(a.Vals)}) {
			t.Errorf("%+v is not the same as itself", a)
		}
		if drill.SameRow(a, api.Row{Here: !a.Here, Vals: a.Vals}) || drill.SameRow(a, api.Row{Here: a.Here, Vals: append([]api.Value{{}}, a.Vals...)}) {
			t.Errorf("%+v is the same as another one", a)
		}
	}
	if !drill.SameRow(api.Row{}, api.Row{Vals: []api.Value{}}) {
		t.Error("no values are not the same as none")
	}
}

func TestEntriesOf(t *testing.T) {
	s := drill.SchemaOf("n:int")
	rows := map[string]api.Row{"c": drill.RowOf(s, "{n=3}"), "a": drill.RowOf(s, "{n=1}"), "b": {}, "\x00": drill.RowOf(s, "{n=0}")}
	for _, x := range []struct{ lo, hi, want string }{
		{"", "", `"\x00"{n=0} "a"{n=1} "c"{n=3} `}, {"a", "", `"a"{n=1} "c"{n=3} `}, {"", "c", `"\x00"{n=0} "a"{n=1} `}, {"a", "a", ""}, {"b", "z", `"c"{n=3} `}, {"d", "", ""},
	} {
		if got := drill.ShownEntries(s, drill.EntriesOf(rows, x.lo, x.hi)); got != x.want {
			t.Errorf("from %q to %q: %s, want %s", x.lo, x.hi, got, x.want)
		}
	}
}

func TestSameEntries(t *testing.T) {
	s := drill.Schemas()[0]
	a, b := api.Entry{Key: "a", Vals: drill.Records(s)[0]}, api.Entry{Key: "b", Vals: drill.Records(s)[1]}
	if !drill.SameEntries([]api.Entry{a, b}, []api.Entry{a, b}) || !drill.SameEntries(nil, []api.Entry{}) {
		t.Error("lists are not the same as themselves")
	}
	for _, list := range [][]api.Entry{nil, {a}, {b, a}, {a, b, b}, {a, {Key: "b", Vals: a.Vals}}, {a, {Key: "c", Vals: b.Vals}}} {
		if drill.SameEntries([]api.Entry{a, b}, list) {
			t.Errorf("%v is the same as another one", list)
		}
	}
}
