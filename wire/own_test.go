package wire_test

import (
	"bytes"
	"math"
	"slices"
	"testing"

	"arbor/api"
	"arbor/drill"
	"arbor/wire"
)

var spare = api.Value{Kind: 77}

// P24.9: lists that are handed in are not changed, nor is the room behind them.
func TestArgumentsAreNotChanged(t *testing.T) {
	numbers := drill.Numbers(711)
	for _, s := range schemas() {
		given := api.Schema{Fields: drill.Roomy(s.Fields, api.Field{Name: "spare"})}
		for _, vals := range someVals(s)[1:] {
			roomy := drill.Roomy(vals, spare)
			wire.EncodeRequest(given, api.Request{Op: api.RPut, Vals: roomy})
			wire.EncodeReply(given, api.Reply{Row: api.Row{Here: true, Vals: roomy}})
			rows := []api.Entry{{Key: "a", Vals: roomy}, {Key: "b", Vals: roomy}, {Key: "spare"}}
			wire.EncodeReply(given, api.Reply{Rows: rows[:2]})
			if !drill.AsItWas(roomy, vals, spare) || rows[0].Key != "a" || rows[1].Key != "b" || rows[2].Key != "spare" {
				t.Fatal("values or rows were changed")
			}
		}
		for _, b := range someParts(s, &numbers) {
			for _, b := range [][]byte{b, b[:len(b)-1], b[1:], drill.Turned(b, 77, 1)} {
				roomy := drill.Roomy(b, 77)
				wire.DecodeRequest(given, roomy)
				wire.DecodeReply(given, roomy)
				splitter := wire.NewSplitter()
				splitter.Feed(roomy[:3])
				splitter.Feed(roomy[3:])
				if !drill.AsItWas(roomy, b, 77) {
					t.Fatalf("%d bytes were changed", len(b))
				}
			}
		}
		if !drill.AsItWas(given.Fields, s.Fields, api.Field{Name: "spare"}) {
			t.Fatal("a schema was changed")
		}
	}
}

// P24.9: parts that Encode answers, and lists that Decode does, are new memory; bytes that were handed in may become others.
func TestAnswersShareNothing(t *testing.T) {
	s, r := greatest()
	one, _ := wire.EncodeReply(s, r)
	two, _ := wire.EncodeReply(s, r)
	if drill.AnyTwoShare([][]byte{one, two}) {
		t.Fatal("two parts share memory")
	}
	drill.Overwrite(one, 77)
	if again, _ := wire.EncodeReply(s, r); !bytes.Equal(again, two) {
		t.Error("what was done to a part is seen in a later one")
	}
	var lists [][]api.Value
	var told []api.Reply
	for range 2 {
		b := bytes.Clone(two)
		q, e := wire.DecodeReply(s, b)
		if e != api.OK {
			t.Fatalf("DecodeReply = %d", e)
		}
		drill.Overwrite(b, 77)
		told, lists = append(told, q), append(lists, q.Row.Vals)
		for _, entry := range q.Rows {
			lists = append(lists, entry.Vals)
		}
	}
	if drill.AnyTwoShare(lists) || drill.Shares(told[0].Rows, told[1].Rows) {
		t.Error("two lists share memory")
	}
	if !sameReply(told[0], r) {
		t.Error("what was done to the bytes is seen in the reply")
	}
	for _, list := range lists[:101] {
		drill.Overwrite(list, spare)
	}
	if !sameReply(told[1], r) {
		t.Error("what was done to one reply is seen in another")
	}
}

// P24.9: likewise of requests.
func TestRequestsShareNothing(t *testing.T) {
	numbers := drill.Numbers(712)
	for _, s := range schemas() {
		for _, r := range someRequests(s, &numbers) {
			one, _ := wire.EncodeRequest(s, r)
			two, _ := wire.EncodeRequest(s, r)
			first, _ := wire.DecodeRequest(s, one)
			second, _ := wire.DecodeRequest(s, one)
			if drill.Shares(one, two) || drill.Shares(first.Vals, second.Vals) || drill.Shares(first.Vals, r.Vals) {
				t.Fatalf("%s: two answers share memory", shownRequest(r))
			}
			drill.Overwrite(one, 77)
			drill.Overwrite(first.Vals, spare)
			if again, _ := wire.EncodeRequest(s, r); !sameRequest(second, r) || !bytes.Equal(again, two) {
				t.Fatalf("%s: what was done to an answer is seen", shownRequest(r))
			}
		}
	}
}

// P24.9: a splitter keeps nothing of a piece, and each part is memory of its own, which it does not know any more.
func TestPartsShareNothing(t *testing.T) {
	numbers := drill.Numbers(713)
	s := drill.Schemas()[0]
	for range 50 {
		list := someParts(s, &numbers)
		stream := slices.Concat(list...)
		splitter, at := wire.NewSplitter(), 0
		var got [][]byte
		for at < len(stream) {
			end := min(len(stream), at+numbers.Below(100))
			piece := drill.Roomy(stream[at:end], 0)
			parts, _ := splitter.Feed(piece)
			drill.Overwrite(piece, 77)
			for _, part := range parts {
				if !bytes.Equal(part, list[len(got)]) {
					t.Fatalf("part %d = %x", len(got), part)
				}
				got = append(got, part)
			}
			if len(got) > 0 && numbers.Below(3) == 0 {
				drill.Overwrite(got[len(got)-1], 99)
			}
			at = end
		}
		if drill.AnyTwoShare(got) || len(got) != len(list) {
			t.Fatalf("%d parts of %d, or two share memory", len(got), len(list))
		}
	}
}

// R6: two splitters know nothing of one another.
func TestTwoSplitters(t *testing.T) {
	one, two := wire.NewSplitter(), wire.NewSplitter()
	one.Feed(headed(20, 15))
	two.Feed(headed(13, 15))
	if one.Rest() != 15 || two.Rest() != 0 {
		t.Errorf("Rest %d and %d", one.Rest(), two.Rest())
	}
	if parts, e := one.Feed(make([]byte, 5)); len(parts) != 1 || e != api.OK {
		t.Errorf("%d parts, %d", len(parts), e)
	}
	if parts, e := wire.NewSplitter().Feed(headed(14, 14)); len(parts) != 1 || e != api.OK {
		t.Errorf("of a third one %d parts, %d", len(parts), e)
	}
}

// R1: long bytes, and numbers that promise more than there is.
func TestLongBytes(t *testing.T) {
	s := drill.SchemaOf("n:int")
	b, _ := wire.EncodeReply(s, api.Reply{})
	for _, c := range [][]byte{make([]byte, 1<<24), bytes.Repeat(b, 1<<19), bytes.Repeat([]byte{255}, 1<<24), bytes.Repeat([]byte{1}, 1<<24)} {
		wantNeither(t, s, c)
		wantNeither(t, s, mended(c))
	}
	for op := range 12 {
		for _, rest := range []string{"", "\xff", "\xffa", "\x00\xff\xff", "\x00\xff", "\x00\x00\xff\xff", "\x00\xff\xffa", "\x00\x00\xff\xffa"} {
			wantNeither(t, s, part('Q', math.MaxUint32, u8(op)+rest+"\xff"))
		}
	}
}
