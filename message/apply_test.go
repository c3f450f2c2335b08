package message_test

import (
	"slices"
	"testing"

	"arbor/api"
	"arbor/drill"
	"arbor/message"
)

// P14.5: messages of every kind on every row; the key plays no part.
func TestApplyOnRows(t *testing.T) {
	for _, s := range drill.Schemas() {
		numbers := drill.Numbers(154)
		fitting := drill.Fitting{Schema: s, Numbers: &numbers}
		for _, row := range drill.Rows(s) {
			for range 60 {
				m := fitting.Message("k")
				want := wantApply(t, s, row, m)
				m.Key = drill.Pick(&numbers, drill.Keys())
				if got := wantApply(t, s, row, m); !drill.SameRow(got, want) {
					t.Fatalf("with another key %s makes another row", drill.ShownMessage(s, m))
				}
			}
			for _, record := range drill.Records(s) {
				wantApply(t, s, row, api.Message{Kind: api.MPut, Key: "k", Vals: record})
			}
			wantApply(t, s, row, api.Message{Kind: api.MDelete, Key: "k"})
			wantApply(t, s, row, api.Message{Kind: api.MUpsert, Key: "k"})
		}
	}
}

// P14.6: every three messages out of some, on some rows.
func TestEveryThreeMessages(t *testing.T) {
	s := drill.SchemaOf(exampleSchema)
	var some []api.Message
	for _, text := range []string{"put a {n=5,on=true}", `put b {tag=""}`, "delete a", "upsert b", "upsert a push 1; addto 0", "upsert c new", "upsert a delete", "upsert b here; store 1", `upsert a has 2; unless 2; clear 2; jump 2; bytes "x"; store 2`} {
		some = append(some, drill.MessageOf(s, text))
	}
	for length := range 4 {
		drill.Scripts(some, length, func(ms []api.Message) {
			for _, text := range []string{"none", "{}", `{n=-1,on=true,tag="x"}`} {
				wantApply(t, s, drill.RowOf(s, text), ms...)
			}
		})
	}
}

// P14.6: long lists.
func TestManyMessages(t *testing.T) {
	numbers := drill.Numbers(155)
	for _, s := range drill.Schemas() {
		fitting := drill.Fitting{Schema: s, Numbers: &numbers}
		for range 200 {
			ms := make([]api.Message, numbers.Below(30))
			for i := range ms {
				ms[i] = fitting.Message(drill.Pick(&numbers, drill.Keys()))
			}
			wantApply(t, s, fitting.Row(), ms...)
		}
	}
	s := drill.SchemaOf(exampleSchema)
	ms := slices.Repeat([]api.Message{drill.MessageOf(s, "upsert k push 3; addto 0")}, 1<<14)
	got, e := message.ApplyAll(s, drill.RowOf(s, "{n=1}"), ms...)
	if e != api.OK || !drill.SameRow(got, drill.RowOf(s, "{n=49153}")) {
		t.Errorf("ApplyAll of many = %s, %d", drill.ShownRow(s, got), e)
	}
	ms[len(ms)-1].Key = ""
	wantAllRefused(t, s, drill.RowOf(s, "{n=1}"), api.ErrKey, ms...)
}

// P14.6: without messages the row itself, of every schema; and a schema or a row that is none is told.
func TestApplyAllOfNothing(t *testing.T) {
	for _, s := range append(drill.Schemas(), drill.SchemaOf(exampleSchema), drill.SchemaOf("a:bool?")) {
		for _, row := range drill.Rows(s) {
			if got := wantApply(t, s, row); !drill.SameRow(got, row) {
				t.Errorf("%s became %s", drill.ShownRow(s, row), drill.ShownRow(s, got))
			}
		}
		for _, row := range drill.WrongRows(s) {
			wantAllRefused(t, s, row, api.ErrValue)
			wantAllRefused(t, api.Schema{}, row, api.ErrSchema)
		}
	}
	for _, none := range drill.WrongSchemas() {
		wantAllRefused(t, none, api.Row{}, api.ErrSchema)
		wantAllRefused(t, none, api.Row{}, api.ErrSchema, api.Message{})
	}
}

// P14.5, P14.6: a row that is none of the schema: ErrValue, also where a put or a delete would not look at it.
func TestWrongRows(t *testing.T) {
	for _, s := range drill.Schemas() {
		record := drill.Records(s)[0]
		for _, row := range drill.WrongRows(s) {
			for _, m := range []api.Message{
				{Kind: api.MPut, Key: "k", Vals: record}, {Kind: api.MDelete, Key: "k"}, {Kind: api.MUpsert, Key: "k"},
				{Kind: api.MUpsert, Key: "k", Code: []byte{api.INew}}, {Kind: api.MUpsert, Key: "k", Code: []byte{api.IDelete}},
			} {
				if got, e := message.Apply(s, row, m); e != api.ErrValue || !drill.SameRow(got, api.Row{}) {
					t.Fatalf("Apply(%s) on a wrong row = %+v, %d", drill.ShownMessage(s, m), got, e)
				}
				wantAllRefused(t, s, row, api.ErrValue, m)
				wantAllRefused(t, s, row, api.ErrValue, m, m)
			}
		}
	}
}

// P14.5, P14.6: the message's error comes ahead of the row's, of several messages that of the first one that is wrong, and the schema's ahead of all.
func TestOrderOfErrors(t *testing.T) {
	s := drill.Schemas()[0]
	wrong := drill.WrongMessages(s)
	right := api.Message{Kind: api.MDelete, Key: "k"}
	rows := append(drill.WrongRows(s)[:8], drill.Rows(s)[:8]...)
	for i, w := range wrong {
		for j, other := range wrong {
			row := rows[(i+j)%len(rows)]
			wantAllRefused(t, s, row, w.Errno, w.Part, other.Part)
			wantAllRefused(t, s, row, w.Errno, right, w.Part, right, other.Part)
		}
		for _, row := range rows {
			if got, e := message.Apply(s, row, w.Part); e != w.Errno || !drill.SameRow(got, api.Row{}) {
				t.Fatalf("Apply(%s) on %+v = %+v, %d, want %d", drill.ShownMessage(s, w.Part), row, got, e, w.Errno)
			}
			if got, e := message.Apply(api.Schema{}, row, w.Part); e != api.ErrSchema || !drill.SameRow(got, api.Row{}) {
				t.Fatalf("Apply with no schema = %+v, %d", got, e)
			}
			wantAllRefused(t, api.Schema{}, row, api.ErrSchema, right, w.Part)
		}
	}
}
