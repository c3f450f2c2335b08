package drill_test

import (
	"testing"

	"arbor/api"
	"arbor/code"
	"arbor/drill"
	"arbor/message"
)

// Messages that are made are such for rows of the schema, of each kind, with short codes and long ones; wrong ones are told by their errors.
func TestMessages(t *testing.T) {
	numbers := drill.Numbers(10)
	for _, s := range drill.Schemas() {
		fitting, kinds, long := drill.Fitting{Schema: s, Numbers: &numbers}, map[int]int{}, 0
		for range 3000 {
			m := fitting.Message(drill.Pick(&numbers, drill.Keys()))
			if e := message.Check(s, m); e != api.OK {
				t.Fatalf("%s: %d", drill.ShownMessage(s, m), e)
			}
			kinds[m.Kind]++
			if len(m.Code) > 60 {
				long++
			}
		}
		if kinds[api.MPut] < 300 || kinds[api.MDelete] < 300 || kinds[api.MUpsert] < 300 || long < 30 {
			t.Errorf("of the kinds came %v, with %d long codes", kinds, long)
		}
		met := map[api.Errno]int{}
		for _, w := range drill.WrongMessages(s) {
			met[w.Errno]++
			if e := message.Check(s, w.Part); e != w.Errno {
				t.Errorf("%+v: %d, want %d", w.Part, e, w.Errno)
			}
		}
		for _, e := range []api.Errno{api.ErrMessage, api.ErrKey, api.ErrValue, api.ErrCode, api.ErrJump, api.ErrStack, api.ErrOperand} {
			if met[e] == 0 {
				t.Errorf("no message is refused with %d", e)
			}
		}
	}
}

func TestMessagesAsTexts(t *testing.T) {
	s := drill.SchemaOf("n:int,tag:bytes?")
	add, _ := code.Encode(drill.CodeOf("push 1; addto 0")...)
	for _, x := range []struct {
		text, shown string
		m           api.Message
	}{
		{`put k {n=5,tag="a b"}`, `put "k" {n=5,tag="a b"}`, api.Message{Kind: api.MPut, Key: "k", Vals: drill.RowOf(s, `{n=5,tag="a b"}`).Vals}},
		{"delete key", `delete "key"`, api.Message{Kind: api.MDelete, Key: "key"}},
		{"upsert k push 1; addto 0", `upsert "k" push 1; addto 0`, api.Message{Kind: api.MUpsert, Key: "k", Code: add}},
		{"upsert k ", `upsert "k" `, api.Message{Kind: api.MUpsert, Key: "k"}},
		{"upsert k", `upsert "k" `, api.Message{Kind: api.MUpsert, Key: "k"}},
	} {
		m := drill.MessageOf(s, x.text)
		if !drill.SameMessage(m, x.m) || drill.ShownMessage(s, m) != x.shown {
			t.Errorf("%s: %+v, %s", x.text, m, drill.ShownMessage(s, m))
		}
	}
	for _, m := range []api.Message{{}, {Kind: api.MDelete, Code: []byte{1}}, {Kind: api.MUpsert, Code: []byte{1}}, {Kind: api.MUpsert, Vals: make([]api.Value, 2)}} {
		if got := drill.ShownMessage(s, m); got != `no message of ""` {
			t.Errorf("%+v is shown as %s", m, got)
		}
	}
}

// Messages that differ in any part are not the same.
func TestSameMessage(t *testing.T) {
	list := []api.Message{
		{}, {Kind: 1}, {Key: "k"}, {Vals: make([]api.Value, 1)}, {Vals: []api.Value{{N: 1}}}, {Code: []byte{0}}, {Code: []byte{1}},
		{Kind: 1, Key: "k", Vals: make([]api.Value, 1), Code: []byte{1}},
	}
	for i, a := range list {
		for j, b := range list {
			if drill.SameMessage(a, b) != (i == j) {
				t.Errorf("%+v and %+v", a, b)
			}
		}
	}
	if !drill.SameMessage(api.Message{}, api.Message{Vals: []api.Value{}, Code: []byte{}}) {
		t.Error("lists without elements are not the same as none")
	}
}
