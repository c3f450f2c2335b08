package drill_test

import (
	"testing"

	"arbor/api"
	"arbor/code"
	"arbor/drill"
	"arbor/message"
)

// Messages that are made are such for rows of the schema, of each kind, with short codes and long ones; wrong ones are told by their errors.
func TestMessages(t *testing.T) {
	numbers := drill.Numbers(10)
	for _, s := range drill.Schemas() {
		fitting, kinds, long := drill.Fitting{Schema: s, Numbers: &numbers}, map[int]int{}, 0
		for range 3000 {
			m := fitting.Message(drill.Pick(&numbers, drill.Keys()))
			if e := message.Check(s, m); e != api.OK {
				t.Fatalf("%s: %d", drill.ShownMessage(s, m), e)
			}
			kinds[m.Kind]++
			if len(m.Code) > 60 {
				long++
			}
		}
		if kinds[api.MPut] < 300 || kinds[api.MDelete] < 300 || kinds[api.MUpsert] < 300 || long < 30 {
			t.Errorf("of the kinds came %v, with %d long codes", kinds, long)
		}
		met := map[api.Errno]int{}
		for _, w := range drill.WrongMessages(s) {
			met[w.Errno]++
			if e := message.Check(s, w.Part); e != w.Errno {
				t.Errorf("%+v: %d, want %d", w.Part, e, w.Errno)
			}
		}
		for _, e := range []api.Errno{api.ErrMessage, api.ErrKey, api.ErrValue, api.ErrCode, api.ErrJump, api.ErrStack, api.ErrOperand} {
			if met[e] == 0 {
				t.Errorf("no message is refused with %d", e)
			}
		}
	}
}

func TestMessagesAsTexts(t *testing.T) {
	s := drill.SchemaOf("n:int,tag:bytes?")
	add, _ := code.Encode(drill.CodeOf("push 1; addto 0")...)
	for _, x := range []struct {
		text, shown string
		m           api.Message
	}{
		{`put k {n=5,tag="a b"}`, `put "k" {n=5,tag="a b"}`, api.Message{Kind: api.MPut, Key: "k", Vals: drill.RowOf(s, `{n=5,tag="a b"}`).Vals}},
		{"delete key", `delete "key"`, api.Message{Kind: api.MDelete, Key: "key"}},
		{"upsert k push 1; addto 0", `upsert "k" push 1; addto 0`, api.Message{Kind: api.MUpsert, Key: "k", Code: add}},
		{"upsert k ", `upsert "k" `, api.Message{Kind: api.MUpsert, Key: "k"}},
		{"upsert k", `upsert "k" `, api.Message{Kind: api.MUpsert, Key: "k"}},
	} {
		m := drill.MessageOf(s, x.text)
		if !drill.SameMessage(m, x.m) || drill.ShownMessage(s, m) != x.shown {
			t.Errorf("%s: %+v, %s", x.text, m, drill.ShownMessage(s, m))
		}
	}
	for _, m := range []api.Message{{}, {Kind: api.MDelete, Code: []byte{1}}, {Kind: api.MUpsert, Code: []byte{1}}, {Kind: api.MUpsert, Vals: make([]api.Value, 2)}} {
		if got := drill.ShownMessage(s, m); got != `no message of ""` {
			t.Errorf("%+v is shown as %s", m, got)
		}
	}
}

// Messages that differ in any part are not the same.
func TestSameMessage(t *testing.T) {
	list := []api.Message{
		{}, {Kind: 1}, {Key: "k"}, {Vals: make([]api.Value, 1)}, {Vals: []api.Value{{N: 1}}}, {Code: []byte{0}}, {Code: []byte{1}},
		{Kind: 1, Key: "k", Vals: make([]api.Value, 1), Code: []byte{1}},
	}
	for i, a := range list {
		for j, b := range list {
			if drill.SameMessage(a, b) != (i == j) {
				t.Errorf("%+v and %+v", a, b)
			}
		}
	}
	if !drill.SameMessage(api.Message{}, api.Message{Vals: []api.Value{}, Code: []byte{}}) {
		t.Error("lists without elements are not the same as none")
	}
}

// What is done to a list of a message, or behind it, is told; and overwriting reaches all of it.
func TestMessagesTellWhatWasDoneToThem(t *testing.T) {
	s := drill.SchemaOf("n:int,tag:bytes?")
	for _, text := range []string{"put k {n=5}", "delete k", "upsert k", "upsert k push 1; addto 0"} {
		m := drill.MessageOf(s, text)
		for name, change := range map[string]func(*api.Message){
			"kind":  func(m *api.Message) { m.Kind++ },
			"key":   func(m *api.Message) { m.Key += "k" },
			"vals":  func(m *api.Message) { m.Vals[:1][0].N++ },
			"code":  func(m *api.Message) { m.Code[:1][0]++ },
			"all":   func(m *api.Message) { drill.OverwriteMessage(*m); m.Vals = m.Vals[:len(m.Vals)+1] },
			"vals+": func(m *api.Message) { _ = append(m.Vals, api.Value{}) },
			"code+": func(m *api.Message) { _ = append(m.Code, 0) },
		} {
			given := drill.RoomyMessage(m)
			if !drill.MessageAsItWas(given, m) || drill.Shares(given.Vals, m.Vals) || drill.Shares(given.Code, m.Code) {
				t.Errorf("%s: %+v", text, given)
			}
			change(&given)
			if drill.MessageAsItWas(given, m) {
				t.Errorf("%s: a change (%s) is not told", text, name)
			}
		}
	}
	m := drill.RoomyMessage(drill.MessageOf(s, "put k {n=5}"))
	m.Code = make([]byte, 1, 3)
	drill.OverwriteMessage(m)
	for _, v := range m.Vals[:cap(m.Vals)] {
		if v.Kind != 77 {
			t.Errorf("a value is left: %+v", v)
		}
	}
	if string(m.Code[:3]) != "www" {
		t.Errorf("the code is % x", m.Code[:3])
	}
}

func TestListsOfMessagesAsTexts(t *testing.T) {
	s := drill.SchemaOf("n:int,tag:bytes?")
	one := drill.MessageOf(s, "delete k")
	list := []api.Message{drill.MessageOf(s, "put k {n=5}"), one, one, one, one, one, one, one, drill.MessageOf(s, "upsert k new")}
	if got := drill.ShownMessages(s, list[:2]); got != `put "k" {n=5} | delete "k" | ` {
		t.Errorf("two are shown as %s", got)
	}
	if drill.ShownMessages(s, nil) != "" || drill.ShownMessages(s, list) != drill.ShownMessages(s, list[:8]) {
		t.Error("none or many are shown otherwise")
	}
}

// Keys that are picked are keys, of many lengths; of one number there is one key.
func TestKeysThatArePicked(t *testing.T) {
	numbers := drill.Numbers(12)
	lengths, twice := map[int]int{}, 0
	for number := range 10000 {
		key := drill.Key(number)
		if message.CheckKey(key) != api.OK || drill.Key(number) != key {
			t.Fatalf("the key of %d is %q", number, key)
		}
		lengths[len(key)]++
	}
	if len(lengths) < 7 {
		t.Errorf("the lengths of keys are %v", lengths)
	}
	for range 200 {
		keys := drill.SomeKeys(&numbers, 1000, 5)
		if len(keys) < 1 || len(keys) > 5 {
			t.Fatalf("%d keys", len(keys))
		}
		if len(keys) == 2 && keys[0] == keys[1] {
			twice++
		}
	}
	if twice < 5 || drill.SomeKey(&numbers, 1) != drill.Key(0) {
		t.Errorf("%d times one key came twice", twice)
	}
}
