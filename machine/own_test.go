package machine_test

import (
	"bytes"
	"slices"
	"testing"

	"arbor/api"
	"arbor/code"
	"arbor/drill"
	"arbor/machine"
)

var (
	spareIns   = api.Ins{Op: 77, N: 77, S: "spare"}
	spareValue = api.Value{Kind: 77, N: 77, S: "spare"}
	spareField = api.Field{Name: "spare"}
)

const spareByte = 0x77

// P13.5, R5: rows, codes, bytes and schemas that are handed in are not changed, nor is the spare room of their lists.
func TestArgumentsAreNotChanged(t *testing.T) {
	rightCodes(t, 147, 2000, func(fitting drill.Fitting, is []api.Ins) {
		s, row := fitting.Schema, fitting.Row()
		if fitting.Numbers.Below(8) == 0 && row.Here {
			row.Vals[0] = api.Value{Kind: 9}
		}
		if fitting.Numbers.Below(8) == 0 {
			is = append(is, api.Ins{Op: api.IJump, N: 9})
		}
		raw, _ := code.Encode(is...)
		fields, vals := drill.Roomy(s.Fields, spareField), drill.Roomy(row.Vals, spareValue)
		given, in, b := api.Schema{Fields: fields}, drill.Roomy(is, spareIns), drill.Roomy(raw, spareByte)
		machine.Run(given, in, api.Row{Here: row.Here, Vals: vals})
		machine.Trace(given, in, api.Row{Here: row.Here, Vals: vals})
		machine.Exec(given, b, api.Row{Here: row.Here, Vals: vals})
		if !drill.AsItWas(fields, s.Fields, spareField) || !drill.AsItWas(vals, row.Vals, spareValue) || !drill.AsItWas(in, is, spareIns) || !drill.AsItWas(b, raw, spareByte) {
			t.Fatalf("%s on %+v changed an argument: %+v, %+v, %+v, % x", drill.ShownCode(is), row, fields, vals, in, b)
		}
	})
}

// P13.5, R5: the row that is answered is new memory, also where nothing was to be done, and whatever made its record; so is a trace.
func TestAnswersShareNothing(t *testing.T) {
	s := drill.SchemaOf(exampleSchema)
	for _, text := range []string{"", "new", "push 1; addto 0", "here; unless 1; delete; new", "delete; new", "clear 1; load 1; store 1", "delete; new; delete; new", "load 3; delete; new; store 3"} {
		is := drill.CodeOf(text)
		b, _ := code.Encode(is...)
		for _, row := range drill.Rows(s) {
			want := bookRun(s, is, row)
			vals := drill.Roomy(row.Vals, spareValue)
			in := api.Row{Here: row.Here, Vals: vals}
			first, _ := machine.Run(s, is, in)
			second, _ := machine.Run(s, is, in)
			third, _ := machine.Exec(s, b, in)
			steps, _ := machine.Trace(s, is, in)
			again, _ := machine.Trace(s, is, in)
			lists := [][]api.Value{vals, first.Row.Vals, second.Row.Vals, third.Vals}
			for i, list := range lists {
				for _, other := range lists[:i] {
					if drill.Shares(list, other) {
						t.Fatalf("%s on %s: two rows share memory", text, drill.ShownRow(s, row))
					}
				}
			}
			if drill.Shares(steps, again) {
				t.Fatalf("%s on %s: two traces share memory", text, drill.ShownRow(s, row))
			}
			drill.Overwrite(vals, spareValue)
			drill.Overwrite(second.Row.Vals, spareValue)
			drill.Overwrite(third.Vals, spareValue)
			drill.Overwrite(again, api.Step{At: 77})
			if !drill.SameRow(first.Row, want.row()) || !slices.Equal(steps, want.steps) {
				t.Fatalf("%s on %s: what was done to one list is seen in another: %+v, %+v", text, drill.ShownRow(s, row), first, steps)
			}
			wantRun(t, s, is, row)
		}
	}
}

// P13.5: what becomes of the code, its bytes and the schema behind a call is not seen in its answer.
func TestNothingIsKept(t *testing.T) {
	rightCodes(t, 148, 1000, func(fitting drill.Fitting, is []api.Ins) {
		s, row := fitting.Schema, fitting.Row()
		want := bookRun(s, is, row)
		fields, in := slices.Clone(s.Fields), slices.Clone(is)
		b, _ := code.Encode(is...)
		o, _ := machine.Run(api.Schema{Fields: fields}, in, row)
		end, _ := machine.Exec(api.Schema{Fields: fields}, b, row)
		steps, _ := machine.Trace(api.Schema{Fields: fields}, in, row)
		drill.Overwrite(fields, spareField)
		drill.Overwrite(in, spareIns)
		drill.Overwrite(b, spareByte)
		if !drill.SameRow(o.Row, want.row()) || !drill.SameRow(end, want.row()) || !slices.Equal(steps, want.steps) {
			t.Fatalf("%s on %s: what was done to an argument is seen in an answer", drill.ShownCode(is), drill.ShownRow(s, row))
		}
	})
}

// R6: an answer hangs on its own arguments alone, whatever was asked before, and refused.
func TestCallsKnowNothingOfOneAnother(t *testing.T) {
	ints, texts := drill.SchemaOf("n:int,m:int?"), drill.SchemaOf("n:bytes?,m:bytes")
	is := drill.CodeOf("new; load 0; store 1")
	for range 3 {
		for _, row := range drill.Rows(ints) {
			wantRun(t, ints, is, row)
			wantRun(t, ints, times(16, "push 7; addto 0"), row)
			wantRun(t, ints, nil, row)
		}
		for _, row := range drill.Rows(texts) {
			wantRun(t, texts, is, row)
		}
		wantError(t, ints, drill.CodeOf("push 1; push 2"), api.Row{}, api.ErrStack)
		wantError(t, texts, is, drill.RowOf(ints, "{n=1}"), api.ErrValue)
		wantError(t, ints, is, api.Row{Here: true}, api.ErrValue)
		wantError(t, api.Schema{}, is, api.Row{}, api.ErrSchema)
	}
}

// R4: a list that is nil and one without elements are the same.
func TestEmptyListsAreNone(t *testing.T) {
	s := drill.SchemaOf(exampleSchema)
	for _, none := range [][]api.Ins{nil, {}, make([]api.Ins, 0, 4), drill.CodeOf("push 1")[:0]} {
		for _, vals := range [][]api.Value{nil, {}, make([]api.Value, 0, 4), {{Kind: 9}}} {
			row := api.Row{Vals: vals[:0]}
			wantRun(t, s, none, row)
			wantRun(t, s, drill.CodeOf("new; push 1; store 1"), row)
			wantError(t, s, none, api.Row{Here: true, Vals: vals[:0]}, api.ErrValue)
			wantError(t, api.Schema{}, none, row, api.ErrSchema)
			wantError(t, api.Schema{Fields: []api.Field{}}, none, row, api.ErrSchema)
		}
	}
	for _, none := range [][]byte{nil, {}, make([]byte, 0, 4), bytes.Repeat([]byte{1}, 3)[:0]} {
		if end, e := machine.Exec(s, none, api.Row{}); e != api.OK || !drill.SameRow(end, api.Row{}) {
			t.Errorf("Exec of nothing = %+v, %d", end, e)
		}
	}
}
