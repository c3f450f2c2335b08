package fuse_test

import (
	"slices"
	"testing"

	"arbor/api"
	"arbor/drill"
	"arbor/fuse"
)

var (
	spareIns   = api.Ins{Op: 77, N: 77, S: "spare"}
	spareField = api.Field{Name: "spare"}
	spareByte  = byte(0x77)
)

func roomyAll(ms []api.Message) []api.Message {
	list := make([]api.Message, len(ms), len(ms)+1)
	for i, m := range ms {
		list[i] = drill.RoomyMessage(m)
	}
	list[:len(ms)+1][len(ms)] = api.Message{Kind: 77, Key: "spare"}
	return list
}

// allAsTheyWere: is what roomyAll gave still the same as the list that it was given?
func allAsTheyWere(given, ms []api.Message) bool {
	spare := given[:len(given)+1][len(given)]
	return slices.EqualFunc(given, ms, drill.MessageAsItWas) && spare.Kind == 77 && spare.Key == "spare" && spare.Vals == nil && spare.Code == nil
}

// listsOf: of messages by chance, within some number of bytes, for rows of each schema.
func listsOf(seed drill.Numbers, tries int, each func(fitting drill.Fitting, most int, ms []api.Message)) {
	for _, s := range drill.Schemas() {
		fitting := drill.Fitting{Schema: s, Numbers: &seed}
		for i := range tries {
			ms := make([]api.Message, seed.Below(6))
			for j := range ms {
				ms[j] = fitting.Message("k")
				if i%3 > 0 {
					ms[j] = api.Message{Kind: api.MUpsert, Key: "k", Code: fitting.CodeBytes()}
				}
			}
			each(fitting, seed.Below(97), ms)
		}
	}
}

// R5: codes, messages, lists and schemas that are handed in are not changed, nor is their spare room; whether the call is refused or not.
func TestArgumentsAreNotChanged(t *testing.T) {
	wrong := drill.WrongMessages(drill.Schemas()[0])[:40] // of kinds, parts and keys that may not be, whatever the schema is
	listsOf(177, 1500, func(fitting drill.Fitting, most int, ms []api.Message) {
		s, numbers := fitting.Schema, fitting.Numbers
		if len(ms) > 0 && numbers.Below(6) == 0 {
			ms[numbers.Below(len(ms))] = drill.Pick(numbers, wrong).Part
		}
		fields, in := drill.Roomy(s.Fields, spareField), roomyAll(ms)
		given := api.Schema{Fields: fields}
		fuse.Fuse(given, most, in...)
		fuse.Fuse(given, most, in[:0]...)
		for i := 1; i < len(ms); i++ {
			fuse.Pair(given, most, in[i-1], in[i])
			first, second := codeOf(ms[i-1]), codeOf(ms[i])
			a, b := drill.Roomy(first, spareIns), drill.Roomy(second, spareIns)
			fuse.Concat(given, a, b)
			fuse.Concat(given, a, a)
			if !drill.AsItWas(a, first, spareIns) || !drill.AsItWas(b, second, spareIns) {
				t.Fatalf("a code was changed: %s | %s", drill.ShownCode(a), drill.ShownCode(b))
			}
		}
		if !allAsTheyWere(in, ms) || !drill.AsItWas(fields, s.Fields, spareField) {
			t.Fatalf("Fuse(%d, %s) changed an argument", most, drill.ShownMessages(s, ms))
		}
	})
}

// R5: codes that are answered are new memory, also where one of the two is empty, or both lie in one list.
func TestCodesShareNothing(t *testing.T) {
	listsOf(178, 1500, func(fitting drill.Fitting, _ int, ms []api.Message) {
		s := fitting.Schema
		for _, m := range ms {
			is := codeOf(m)
			whole := drill.Roomy(slices.Concat(is, is), spareIns)
			a, b := whole[:len(is)], whole[len(is):]
			for _, pair := range [][2][]api.Ins{{a, b}, {a, nil}, {nil, b}, {a, a}} {
				first, e := fuse.Concat(s, pair[0], pair[1])
				second, _ := fuse.Concat(s, pair[0], pair[1])
				if e != api.OK {
					continue
				}
				if drill.Shares(first, whole) || drill.Shares(second, whole) || drill.Shares(first, second) {
					t.Fatalf("Concat(%s | %s): two codes share memory", drill.ShownCode(pair[0]), drill.ShownCode(pair[1]))
				}
				want := slices.Clone(first)
				drill.Overwrite(second, spareIns)
				if third, _ := fuse.Concat(s, pair[0], pair[1]); !slices.Equal(first, want) || !slices.Equal(third, want) {
					t.Fatalf("Concat(%s | %s): what was done to an answer is seen in another", drill.ShownCode(pair[0]), drill.ShownCode(pair[1]))
				}
			}
		}
	})
}

// R5: messages that are answered are new memory, those that stay as they are too, and though one message was given twice.
func TestMessagesShareNothing(t *testing.T) {
	apart := 0
	listsOf(179, 1500, func(fitting drill.Fitting, most int, ms []api.Message) {
		s := fitting.Schema
		in := roomyAll(ms)
		if len(in) > 0 {
			in = append(in, in[0], in[len(in)-1])
		}
		first, _ := fuse.Fuse(s, most, in...)
		second, _ := fuse.Fuse(s, most, in...)
		want := drill.ShownMessages(s, first)
		if drill.Shares(first, in) || drill.Shares(second, in) || drill.Shares(first, second) {
			t.Fatalf("Fuse(%d, %s): two lists share memory", most, drill.ShownMessages(s, in))
		}
		answered := slices.Concat(first, second)
		for i, m := range answered {
			for _, other := range slices.Concat(answered[:i], in) {
				if drill.Shares(m.Vals, other.Vals) || drill.Shares(m.Code, other.Code) {
					t.Fatalf("Fuse(%d, %s): two messages share memory", most, drill.ShownMessages(s, in))
				}
			}
		}
		if len(first) > 1 {
			apart++
		}
		for _, m := range slices.Concat(second, in) {
			drill.OverwriteMessage(m)
		}
		if got := drill.ShownMessages(s, first); got != want {
			t.Fatalf("Fuse: %s became %s", want, got)
		}
	})
	if apart < 300 {
		t.Errorf("only %d answers were more than one message", apart)
	}
}

// R5: of Pair, too: the one message, or the two.
func TestPairSharesNothing(t *testing.T) {
	s := drill.SchemaOf(exampleSchema)
	for _, most := range []int{0, 4, 96} {
		drill.Scripts(some(s), 2, func(ms []api.Message) {
			in := roomyAll(ms)
			for _, list := range [][]api.Message{in, {in[0], in[0]}} {
				got, _ := fuse.Pair(s, most, list[0], list[1])
				for i, m := range got {
					for _, other := range slices.Concat(got[:i], in) {
						if drill.Shares(m.Vals, other.Vals) || drill.Shares(m.Code, other.Code) {
							t.Fatalf("Pair(%d, %s): two messages share memory", most, drill.ShownMessages(s, list))
						}
					}
				}
			}
		})
	}
}

// R6: an answer hangs on its own arguments alone, whatever was asked before, and refused.
func TestCallsKnowNothingOfOneAnother(t *testing.T) {
	ints, texts := drill.SchemaOf("n:int,m:int?"), drill.SchemaOf("n:bytes?,m:int")
	adds := messagesOf(ints, "upsert k push 1; addto 1", "upsert k push 2; addto 1", "upsert k new")
	puts := messagesOf(ints, "put k {n=1}", "upsert k push 1; addto 0")
	for range 3 {
		for _, most := range []int{96, 0, 4, -1, 5, 97} {
			for _, s := range []api.Schema{ints, texts, {}} {
				wantFused(t, s, most, adds, []api.Row{{}})
				wantFused(t, s, most, puts, nil)
				wantFused(t, s, most, nil, nil)
				wantFused(t, s, most, append(slices.Clone(adds), api.Message{Kind: api.MDelete, Key: "j"}), nil)
			}
		}
		wantConcat(t, ints, codeOf(adds[0]), codeOf(adds[1]), drill.Rows(ints))
		wantConcat(t, texts, codeOf(adds[0]), codeOf(adds[1]), drill.Rows(texts))
		wantNoCode(t, texts, codeOf(puts[1]), codeOf(adds[1]), api.ErrOperand)
	}
}

// R4: a list that is nil and one without elements are the same.
func TestEmptyListsAreNone(t *testing.T) {
	s := drill.SchemaOf(exampleSchema)
	add, record := drill.CodeOf("push 1; addto 0"), drill.RowOf(s, "{n=3}").Vals
	for _, none := range [][]api.Ins{nil, {}, make([]api.Ins, 0, 4), add[:0]} {
		for _, other := range [][]api.Ins{nil, {}, add} {
			wantConcat(t, s, none, other, exampleRows())
			wantConcat(t, s, other, none, exampleRows())
		}
	}
	for _, vals := range [][]api.Value{nil, {}, make([]api.Value, 0, 4), record[:0]} {
		for _, raw := range [][]byte{nil, {}, make([]byte, 0, 4), []byte{spareByte}[:0]} {
			kinds := []api.Message{
				{Kind: api.MPut, Key: "k", Vals: record, Code: raw}, {Kind: api.MDelete, Key: "k", Vals: vals, Code: raw}, {Kind: api.MUpsert, Key: "k", Vals: vals, Code: raw},
				{Kind: api.MUpsert, Key: "k", Vals: vals, Code: []byte{api.INew}}, {Kind: api.MPut, Key: "k", Vals: vals},
			}
			for length := range 3 {
				drill.Scripts(kinds, length, func(ms []api.Message) {
					wantFused(t, s, 96, ms, exampleRows())
					wantFused(t, s, 0, ms, exampleRows())
				})
			}
		}
	}
	for _, ms := range [][]api.Message{nil, {}, make([]api.Message, 0, 3)} {
		if got, e := wantFused(t, s, 0, ms, exampleRows()); e != api.OK || len(got) != 0 {
			t.Errorf("Fuse of nothing = %s, %d", drill.ShownMessages(s, got), e)
		}
	}
}
