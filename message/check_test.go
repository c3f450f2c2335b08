package message_test

import (
	"math"
	"strings"
	"testing"

	"arbor/api"
	"arbor/drill"
	"arbor/message"
)

// P14.1: a key's number of bytes decides, whatever they are.
func TestCheckKey(t *testing.T) {
	for _, filling := range []string{"k", "\x00", "\xff", " ", "\n", "\""} {
		for length := range 300 {
			want := api.OK
			if length == 0 || length > 16 {
				want = api.ErrKey
			}
			if e := message.CheckKey(strings.Repeat(filling, length)); e != want {
				t.Errorf("CheckKey of %d times %q = %d, want %d", length, filling, e, want)
			}
		}
	}
	for c := range 256 {
		if e := message.CheckKey(string([]byte{byte(c)})); e != api.OK {
			t.Errorf("CheckKey of the byte %d = %d", c, e)
		}
	}
	// Bytes are counted, not runes.
	for text, want := range map[string]api.Errno{strings.Repeat("é", 8): api.OK, strings.Repeat("é", 9): api.ErrKey, strings.Repeat("k", 1<<16+1): api.ErrKey, strings.Repeat("k", 1<<24): api.ErrKey} {
		if e := message.CheckKey(text); e != want {
			t.Errorf("CheckKey of %d bytes = %d, want %d", len(text), e, want)
		}
	}
}

// P14.2, P14.3, P14.5, P14.6: every kind with every choice of parts: right, empty and wrong ones.
func TestEveryChoiceOfParts(t *testing.T) {
	kinds := []int{math.MinInt, -1, 0, api.MPut, api.MDelete, api.MUpsert, 4, 5, 255, 256, 256 + api.MPut, 1<<32 + api.MUpsert, math.MaxInt}
	keys := []string{"k", strings.Repeat("k", 16), "", strings.Repeat("k", 17), strings.Repeat("k", 257)}
	met := map[api.Errno]int{}
	for _, s := range append(drill.Schemas(), drill.SchemaOf(exampleSchema), api.Schema{}) {
		vals, codes := partsOf(s)
		for _, kind := range kinds {
			for _, key := range keys {
				for _, v := range vals {
					for _, c := range codes {
						met[wantMessage(t, s, api.Message{Kind: kind, Key: key, Vals: v, Code: c})]++
					}
				}
			}
		}
	}
	for _, e := range []api.Errno{api.OK, api.ErrSchema, api.ErrMessage, api.ErrKey, api.ErrValue, api.ErrCode, api.ErrJump, api.ErrStack, api.ErrOperand} {
		if met[e] == 0 {
			t.Errorf("no message answered %d: %v", e, met)
		}
	}
}

// partsOf: values and codes, the right ones and wrong ones of each error.
func partsOf(s api.Schema) (vals [][]api.Value, codes [][]byte) {
	vals = [][]api.Value{nil, {}, make([]api.Value, 1), make([]api.Value, 100)}
	if len(s.Fields) > 0 {
		records := drill.Records(s)
		vals = append(vals, records[0], records[len(records)-1], records[0][1:])
	}
	for _, text := range []string{"", "\x17", "\x01\x02\x15\x00", "\x01\x02\x15\x03", "\x00", "\x01", "\x15\x00", "\x15\x01", "\x19\x01", "\x01\x02", "\x05\x07\x14\x07", strings.Repeat("\x17", 96), strings.Repeat("\x17", 97)} {
		codes = append(codes, []byte(text))
	}
	return vals, codes
}

// P14.2: wrong messages by themselves; with a wrong schema that one is told.
func TestWrongMessages(t *testing.T) {
	for _, s := range drill.Schemas() {
		for _, w := range drill.WrongMessages(s) {
			if e := wantMessage(t, s, w.Part); e != w.Errno {
				t.Errorf("%+v: %d, want %d", w.Part, e, w.Errno)
			}
			wantMessage(t, api.Schema{}, w.Part)
		}
	}
	for _, none := range drill.WrongSchemas() {
		for _, text := range []string{"put k {n=1}", "delete k", "upsert k", "upsert k push 1; addto 0"} {
			if e := wantMessage(t, none, drill.MessageOf(drill.SchemaOf("n:int"), text)); e != api.ErrSchema {
				t.Errorf("%s: %d", text, e)
			}
		}
		wantMessage(t, none, api.Message{})
		if m, n, e := message.Decode(none, []byte("\x02\x01k\x00")); e != api.ErrSchema || n != 0 || !drill.SameMessage(m, api.Message{}) {
			t.Errorf("Decode with no schema = %+v, %d, %d", m, n, e)
		}
		if _, _, e := message.Decode(none, nil); e != api.ErrSchema {
			t.Errorf("Decode of nothing with no schema = %d", e)
		}
	}
}

// P14.2: what fits one schema does not fit another one.
func TestMessagesOfAnotherSchema(t *testing.T) {
	a, b := drill.SchemaOf("n:int,m:int?"), drill.SchemaOf("n:bytes?,m:bytes")
	for _, x := range []struct {
		of, other api.Schema
		text      string
		e         api.Errno
	}{
		{a, b, "put k {n=1,m=2}", api.ErrValue}, {a, b, "put k {n=1}", api.ErrValue}, {b, a, `put k {m="x"}`, api.ErrValue},
		{a, b, "upsert k push 1; addto 0", api.ErrOperand}, {a, b, "upsert k push 1; store 1", api.ErrStack}, {a, b, "upsert k has 1; unless 0", api.ErrOperand},
		{b, a, "upsert k clear 0", api.ErrOperand}, {b, a, `upsert k bytes "x"; store 0`, api.ErrStack}, {b, a, "upsert k load 1; len; new; push 0; eq; unless 0", api.ErrStack},
	} {
		m := drill.MessageOf(x.of, x.text)
		if e := wantMessage(t, x.of, m); e != api.OK {
			t.Errorf("%s: %d", x.text, e)
		}
		if e := wantMessage(t, x.other, m); e != x.e {
			t.Errorf("%s with the other schema: %d, want %d", x.text, e, x.e)
		}
	}
	for _, text := range []string{"delete k", "upsert k", "upsert k new; delete"} {
		m := drill.MessageOf(a, text)
		if wantMessage(t, a, m) != api.OK || wantMessage(t, b, m) != api.OK {
			t.Errorf("%s is refused", text)
		}
	}
}

// R1: lists and texts far above their bounds are told by their length, in the order of the errors.
func TestVeryLongParts(t *testing.T) {
	s := drill.SchemaOf(exampleSchema)
	vals, raw, key := make([]api.Value, 1<<22), make([]byte, 1<<24), strings.Repeat("k", 1<<24)
	for _, x := range []struct {
		m api.Message
		e api.Errno
	}{
		{api.Message{Kind: api.MPut, Key: "k", Vals: vals}, api.ErrValue},
		{api.Message{Kind: api.MPut, Key: key, Vals: vals}, api.ErrKey},
		{api.Message{Kind: api.MPut, Key: key, Vals: vals, Code: raw}, api.ErrMessage},
		{api.Message{Kind: api.MDelete, Key: key, Vals: vals}, api.ErrMessage},
		{api.Message{Kind: api.MUpsert, Key: "k", Code: raw}, api.ErrCode},
		{api.Message{Kind: api.MUpsert, Key: key, Code: raw}, api.ErrKey},
		{api.Message{Kind: -1, Key: key, Vals: vals, Code: raw}, api.ErrMessage},
	} {
		if e := message.Check(s, x.m); e != x.e {
			t.Errorf("kind %d: %d, want %d", x.m.Kind, e, x.e)
		}
		wantRefused(t, s, x.m, x.e)
	}
}
