package message_test

import (
	"bytes"
	"slices"
	"testing"

	"arbor/api"
	"arbor/drill"
	"arbor/message"
)

var (
	spareValue = api.Value{Kind: 77, N: 77, S: "spare"}
	spareField = api.Field{Name: "spare"}
)

const spareByte = 0x77

// P14.7, R5: messages, rows, bytes and schemas that are handed in are not changed, nor is the spare room of their lists; whether the call is refused or not.
func TestArgumentsAreNotChanged(t *testing.T) {
	wrong := drill.WrongMessages(drill.Schemas()[0])[:40] // of kinds, parts and keys that may not be, whatever the schema is
	messagesOf(163, 1500, func(fitting drill.Fitting, m api.Message) {
		s, row, numbers := fitting.Schema, fitting.Row(), fitting.Numbers
		if numbers.Below(6) == 0 {
			m = drill.Pick(numbers, wrong).Part
		}
		if numbers.Below(6) == 0 && row.Here {
			row.Vals[0] = api.Value{Kind: 9}
		}
		fields, vals := drill.Roomy(s.Fields, spareField), drill.Roomy(row.Vals, spareValue)
		given, in, one := api.Schema{Fields: fields}, api.Row{Here: row.Here, Vals: vals}, drill.RoomyMessage(m)
		ms := []api.Message{one, one, {Kind: api.MDelete, Key: "spare"}}
		message.Check(given, one)
		message.Size(given, one)
		raw, _ := message.Encode(given, one)
		b := drill.Roomy(raw, spareByte)
		message.Decode(given, b)
		message.Apply(given, in, one)
		message.ApplyAll(given, in, ms[:2]...)
		message.ApplyAll(given, in, ms[:0]...)
		if !drill.MessageAsItWas(one, m) || !drill.MessageAsItWas(ms[0], m) || !drill.MessageAsItWas(ms[1], m) || !drill.SameMessage(ms[2], api.Message{Kind: api.MDelete, Key: "spare"}) {
			t.Fatalf("a message was changed: %+v, it was %+v", one, m)
		}
		if !drill.AsItWas(fields, s.Fields, spareField) || !drill.AsItWas(vals, row.Vals, spareValue) || !drill.AsItWas(b, raw, spareByte) {
			t.Fatalf("%s changed an argument: %+v, %+v, % x", drill.ShownMessage(s, m), fields, vals, b)
		}
	})
}

// P14.7, R5: bytes and messages that are answered are new memory.
func TestBytesShareNothing(t *testing.T) {
	messagesOf(164, 1500, func(fitting drill.Fitting, m api.Message) {
		s, want := fitting.Schema, bookEncode(fitting.Schema, m)
		in := drill.RoomyMessage(m)
		first, _ := message.Encode(s, in)
		second, _ := message.Encode(s, in)
		raw := append(slices.Clone(want), "behind"...)
		one, _, _ := message.Decode(s, raw)
		other, _, _ := message.Decode(s, raw)
		lists := [][]byte{in.Code, first, second, raw, one.Code, other.Code}
		for i, list := range lists {
			for _, other := range lists[:i] {
				if drill.Shares(list, other) {
					t.Fatalf("%s: two lists of bytes share memory", drill.ShownMessage(s, m))
				}
			}
		}
		if drill.Shares(one.Vals, other.Vals) || drill.Shares(one.Vals, in.Vals) {
			t.Fatalf("%s: two records share memory", drill.ShownMessage(s, m))
		}
		for _, list := range [][]byte{in.Code, second, raw, other.Code} {
			drill.Overwrite(list, spareByte)
		}
		drill.Overwrite(in.Vals, spareValue)
		drill.Overwrite(other.Vals, spareValue)
		if !bytes.Equal(first, want) || !drill.SameMessage(one, m) {
			t.Fatalf("%s: what was done to one list is seen in another: % x, %+v", drill.ShownMessage(s, m), first, one)
		}
		wantMessage(t, s, m)
	})
}

// P14.7, R5: the row that is answered is new memory, also where nothing was to be done, and whatever made its record.
func TestRowsShareNothing(t *testing.T) {
	numbers := drill.Numbers(165)
	for _, s := range drill.Schemas() {
		fitting := drill.Fitting{Schema: s, Numbers: &numbers}
		put, idle := api.Message{Kind: api.MPut, Key: "k", Vals: fitting.Record()}, api.Message{Kind: api.MUpsert, Key: "k"}
		lists := [][]api.Message{nil, {idle}, {put}, {put, idle}, {put, put}, {{Kind: api.MDelete, Key: "k"}}}
		for range 600 {
			lists = append(lists, someMessages(fitting, 4))
		}
		for _, ms := range lists {
			wantOwnRow(t, s, fitting.Row(), ms)
		}
	}
}

func wantOwnRow(t *testing.T, s api.Schema, row api.Row, ms []api.Message) {
	t.Helper()
	want := drill.PlayMessages(s, row, ms...)
	in := api.Row{Here: row.Here, Vals: drill.Roomy(row.Vals, spareValue)}
	given := make([]api.Message, len(ms))
	for i, m := range ms {
		given[i] = drill.RoomyMessage(m)
	}
	first, _ := message.ApplyAll(s, in, given...)
	second, _ := message.ApplyAll(s, in, given...)
	all := [][]api.Value{in.Vals, first.Vals, second.Vals}
	for _, m := range given {
		one, _ := message.Apply(s, in, m)
		all = append(all, m.Vals, one.Vals)
	}
	for i, list := range all {
		for _, other := range all[:i] {
			if drill.Shares(list, other) {
				t.Fatalf("%s on %s: two lists share memory", drill.ShownMessages(s, ms), drill.ShownRow(s, row))
			}
		}
	}
	drill.Overwrite(second.Vals, spareValue)
	drill.Overwrite(in.Vals, spareValue)
	for _, m := range given {
		drill.OverwriteMessage(m)
	}
	if !drill.SameRow(first, want) {
		t.Fatalf("%s on %s: what was done to one list is seen in another: %+v", drill.ShownMessages(s, ms), drill.ShownRow(s, row), first)
	}
	wantApply(t, s, row, ms...)
}

// R6: an answer hangs on its own arguments alone, whatever was asked before, and refused.
func TestCallsKnowNothingOfOneAnother(t *testing.T) {
	ints, texts := drill.SchemaOf("n:int,m:int?"), drill.SchemaOf("n:bytes?,m:bytes")
	both := drill.MessageOf(ints, "upsert k new; load 0; store 1")
	for range 3 {
		for _, row := range drill.Rows(ints) {
			wantApply(t, ints, row, both, drill.MessageOf(ints, "put k {n=4}"), both)
		}
		for _, row := range drill.Rows(texts) {
			wantApply(t, texts, row, both)
		}
		wantMessage(t, ints, drill.MessageOf(ints, "upsert k clear 1"))
		wantMessage(t, texts, drill.MessageOf(ints, "upsert k clear 1"))
		wantMessage(t, api.Schema{}, both)
		wantMessage(t, ints, api.Message{})
		wantDecode(t, ints, []byte("\x01\x01k\x02\x00\x08"))
		wantDecode(t, texts, []byte("\x01\x01k\x02\x00\x08"))
		wantDecode(t, texts, []byte("\x01\x01k\x02\x00\x00"))
		wantAllRefused(t, texts, drill.RowOf(ints, "{n=1}"), api.ErrValue, both)
	}
}

// R4: a list that is nil and one without elements are the same.
func TestEmptyListsAreNone(t *testing.T) {
	s := drill.SchemaOf(exampleSchema)
	record := drill.RowOf(s, "{n=3}").Vals
	for _, vals := range [][]api.Value{nil, {}, make([]api.Value, 0, 4), record[:0]} {
		for _, code := range [][]byte{nil, {}, make([]byte, 0, 4), []byte("\x17")[:0]} {
			for kind := range 5 {
				wantMessage(t, s, api.Message{Kind: kind, Key: "k", Vals: vals, Code: code})
			}
			wantMessage(t, s, api.Message{Kind: api.MPut, Key: "k", Vals: record, Code: code})
			wantMessage(t, s, api.Message{Kind: api.MUpsert, Key: "k", Vals: vals, Code: []byte{api.INew}})
			row := api.Row{Vals: vals}
			wantApply(t, s, row, api.Message{Kind: api.MUpsert, Key: "k", Vals: vals, Code: code})
			wantApply(t, s, row, api.Message{Kind: api.MUpsert, Key: "k", Vals: vals, Code: []byte{api.INew}})
			wantApply(t, s, row, api.Message{Kind: api.MDelete, Key: "k", Vals: vals, Code: code})
			wantApply(t, s, row)
			wantAllRefused(t, s, api.Row{Here: true, Vals: vals}, api.ErrValue)
			wantDecode(t, s, code)
		}
	}
	wantApply(t, s, api.Row{}, []api.Message{}...)
}
