package node_test

import (
	"slices"
	"testing"

	"arbor/api"
	"arbor/drill"
	"arbor/node"
)

var (
	spareValue = api.Value{Kind: 77, N: 77, S: "spare"}
	spareField = api.Field{Name: "spare"}
)

const (
	spareByte = 0x77
	spareKid  = 7777
	spareText = "spare"
)

// roomy: the same node in other memory, with marked room behind each of its lists.
func roomy(n api.Node) api.Node {
	out := api.Node{Level: n.Level, Pivots: drill.Roomy(n.Pivots, spareText), Kids: drill.Roomy(n.Kids, spareKid), Msgs: roomyMessages(n.Msgs)}
	out.Entries = drill.Roomy(n.Entries, api.Entry{Key: spareText})
	for i, e := range n.Entries {
		out.Entries[i].Vals = drill.Roomy(e.Vals, spareValue)
	}
	return out
}

func roomyMessages(ms []api.Message) []api.Message {
	out := drill.Roomy(ms, api.Message{Key: spareText})
	for i, m := range ms {
		out[i] = drill.RoomyMessage(m)
	}
	return out
}

// asItWas: is what roomy gave still the same as the node that it was given?
func asItWas(given, n api.Node) bool {
	entries := given.Entries[:len(given.Entries)+1]
	return given.Level == n.Level && drill.AsItWas(given.Pivots, n.Pivots, spareText) && drill.AsItWas(given.Kids, n.Kids, spareKid) && messagesAsTheyWere(given.Msgs, n.Msgs) &&
		slices.EqualFunc(given.Entries, n.Entries, func(a, b api.Entry) bool {
			return a.Key == b.Key && drill.AsItWas(a.Vals, b.Vals, spareValue)
		}) && sameEntry(entries[len(n.Entries)], api.Entry{Key: spareText})
}

func messagesAsTheyWere(given, ms []api.Message) bool {
	return slices.EqualFunc(given, ms, drill.MessageAsItWas) && drill.SameMessage(given[:len(given)+1][len(given)], api.Message{Key: spareText})
}

func overwrite(n api.Node) {
	for _, e := range n.Entries {
		drill.Overwrite(e.Vals, spareValue)
	}
	drill.Overwrite(n.Entries, api.Entry{Key: spareText})
	drill.Overwrite(n.Pivots, spareText)
	drill.Overwrite(n.Kids, spareKid)
	overwriteMessages(n.Msgs)
}

func overwriteMessages(ms []api.Message) {
	for _, m := range ms {
		drill.OverwriteMessage(m)
	}
	drill.Overwrite(ms, api.Message{Key: spareText})
}

// twice: is there a list of two nodes, or of one at two places, that shares memory with another?
func twice(nodes ...api.Node) bool {
	var vals [][]api.Value
	var codes [][]byte
	for i, n := range nodes {
		for _, other := range nodes[:i] {
			if drill.Shares(n.Entries, other.Entries) || drill.Shares(n.Pivots, other.Pivots) || drill.Shares(n.Kids, other.Kids) || drill.Shares(n.Msgs, other.Msgs) {
				return true
			}
		}
		for _, e := range n.Entries {
			vals = append(vals, e.Vals)
		}
		for _, m := range n.Msgs {
			vals, codes = append(vals, m.Vals), append(codes, m.Code)
		}
	}
	return anyTwoShare(vals) || anyTwoShare(codes)
}

// anyTwoShare: the room behind the lists counts too. Every place is met once, so that many lists are soon looked through.
func anyTwoShare[Part any](lists [][]Part) bool {
	met := map[*Part]int{}
	for _, list := range lists {
		list = list[:cap(list)]
		for i := range list {
			met[&list[i]]++
			if met[&list[i]] > 1 {
				return true
			}
		}
	}
	return false
}

// withMessages: a node that has nothing but messages, to hold lists of them against nodes.
func withMessages(ms []api.Message) api.Node { return api.Node{Msgs: ms} }

// calls: the nodes that each call answers to some arguments, lists of messages as nodes too; a piece of the node is handed in twice where that can be.
func calls(s api.Schema, n api.Node, ms []api.Message, kids []int, pivots []string) []api.Node {
	var all []api.Node
	keep := func(n api.Node, e api.Errno) { all = append(all, n) }
	keep(node.Add(s, n, ms...))
	keep(node.Add(s, n))
	keep(node.Apply(s, n, ms...))
	keep(node.Apply(s, n))
	for kid := range n.Kids {
		drawn, rest, _ := node.Draw(n, kid)
		all = append(all, withMessages(drawn), rest)
	}
	for parts := range 4 {
		nodes, ahead, _ := node.Split(n, parts)
		all = append(all, nodes...)
		all = append(all, api.Node{Pivots: ahead})
	}
	empty := api.Node{Level: n.Level}
	if n.Level > 1 {
		empty.Kids = kids[:1]
	}
	keep(node.Merge(n, "\xff\xff\xff\xff", empty))
	keep(node.Merge(empty, "", n))
	keep(node.Replace(n, 0, len(n.Kids), kids, pivots))
	keep(node.Replace(n, 0, 1, kids[:1], pivots[:0]))
	if b, e := node.Encode(s, n); e == api.OK {
		keep(node.Decode(s, b))
	}
	return all
}

// P16.12, R5: nodes, lists and schemas that are handed in are not changed, nor is their spare room, whether the call is refused or not.
func TestArgumentsAreNotChanged(t *testing.T) {
	wrong := drill.WrongMessages(drill.Schemas()[0])[:40] // of kinds, parts and keys that may not be, whatever the schema is
	someNodes(193, 900, func(f drill.Fitting, n api.Node) {
		s, numbers := f.Schema, f.Numbers
		ms := someMessages(f, n, 6)
		if len(ms) > 0 && numbers.Below(6) == 0 {
			ms[numbers.Below(len(ms))] = drill.Pick(numbers, wrong).Part
		}
		if len(n.Kids) > 1 && numbers.Below(6) == 0 {
			n.Pivots = slices.Clone(n.Pivots)
			slices.Reverse(n.Pivots)
		}
		kids, pivots := []int{9, 8, 7}, []string{"a", "b"}
		fields, in, come := drill.Roomy(s.Fields, spareField), roomy(n), roomyMessages(ms)
		inKids, inPivots := drill.Roomy(kids, spareKid), drill.Roomy(pivots, spareText)
		given := api.Schema{Fields: fields}
		calls(given, in, come, inKids, inPivots)
		node.Check(given, api.Config{Fanout: 4, Leaf: 2, Buffer: 115}, in)
		node.Child(in, "b")
		node.Waiting(given, in)
		node.Fullest(given, in)
		b, _ := node.Encode(given, in)
		raw := drill.Roomy(b, spareByte)
		node.Decode(given, raw)
		if !asItWas(in, n) || !messagesAsTheyWere(come, ms) || !drill.AsItWas(fields, s.Fields, spareField) {
			t.Fatalf("an argument was changed: %s", shown(s, in))
		}
		if !drill.AsItWas(inKids, kids, spareKid) || !drill.AsItWas(inPivots, pivots, spareText) || !drill.AsItWas(raw, b, spareByte) {
			t.Fatalf("a list was changed: %v, %q, % x", inKids, inPivots, raw)
		}
	})
}

// P16.12, R5: in what is answered every list is new memory, of each node, entry and message, though one message was handed in twice.
func TestAnswersShareNothing(t *testing.T) {
	someNodes(194, 700, func(f drill.Fitting, n api.Node) {
		s := f.Schema
		ms := someMessages(f, n, 6)
		if n.Level > 1 {
			ms = append(ms, n.Msgs...)
		}
		in, come := roomy(n), roomyMessages(ms)
		come = append(come, come...)
		kids, pivots := []int{9, 8, 7}, []string{"a", "b"}
		first, second := calls(s, in, come, kids, pivots), calls(s, in, come, kids, pivots)
		given := []api.Node{in, withMessages(come[:len(ms)]), {Kids: kids, Pivots: pivots}}
		for i, got := range first {
			if twice(append(slices.Clone(given), got, second[i])...) {
				t.Fatalf("answer %d for %s shares memory", i, shown(s, n))
			}
		}
		if twice(first...) {
			t.Fatalf("two answers for %s share memory", shown(s, n))
		}
		var want []api.Node
		for _, n := range first {
			want = append(want, roomy(n))
		}
		for _, n := range second {
			overwrite(n)
		}
		overwrite(in)
		overwriteMessages(come)
		drill.Overwrite(kids, spareKid)
		drill.Overwrite(pivots, spareText)
		for i := range first {
			wantNode(t, s, "an answer behind what was done to the arguments and other answers", first[i], api.OK, want[i], api.OK)
		}
	})
}

// R5: bytes that are answered, and nodes that are read from bytes, are new memory.
func TestBytesShareNothing(t *testing.T) {
	someNodes(195, 600, func(f drill.Fitting, n api.Node) {
		s, in := f.Schema, roomy(n)
		first, e := node.Encode(s, in)
		if e != api.OK {
			return
		}
		second, _ := node.Encode(s, in)
		want := bookBytes(s, n)
		one, _ := node.Decode(s, first)
		other, _ := node.Decode(s, first)
		lists := [][]byte{first, second}
		for _, m := range slices.Concat(in.Msgs, one.Msgs, other.Msgs) {
			lists = append(lists, m.Code)
		}
		if anyTwoShare(lists) || twice(in, one, other) {
			t.Fatalf("two lists share memory: %s", shown(s, n))
		}
		overwrite(other)
		overwrite(in)
		drill.Overwrite(first, spareByte)
		wantNode(t, s, "the one that was read first", one, api.OK, n, api.OK)
		if !slices.Equal(second, want) {
			t.Fatalf("Encode(%s) became % x", shown(s, n), second)
		}
	})
}

// R6: an answer hangs on its own arguments alone, whatever was asked before, and refused.
func TestCallsKnowNothingOfOneAnother(t *testing.T) {
	ints, texts := exampleSchema(), drill.SchemaOf("n:bytes?")
	leaf, in := leafOf(ints, "a{n=1}", "b{n=2}"), innerOf(ints, "1 b 2", "a+1", "b:=3", "b-")
	come := messagesOf(ints, "a+1", "b+2", "a:=4")
	for range 3 {
		for _, s := range []api.Schema{ints, texts, {}} {
			for _, n := range []api.Node{leaf, in, {}} {
				wantBytes(t, s, n)
				wantAdd(t, s, n, come...)
				wantApply(t, s, n, come...)
				wantCheck(t, s, api.Config{Fanout: 4, Leaf: 2, Buffer: 115}, n)
				wantPlaces(t, s, n)
				wantDraw(t, s, n, 1)
				wantSplit(t, s, n, 2)
				wantMerge(t, s, n, "c", n)
				wantReplace(t, s, n, 0, 1, []int{3, 4}, []string{"a"})
			}
		}
	}
}

// R4: a list that is nil and one without elements are the same.
func TestEmptyListsAreNone(t *testing.T) {
	s := exampleSchema()
	someIn, someLeaf := innerOf(s, "1 b 2", "a-"), leafOf(s, "a{n=1}")
	for i := range 16 {
		fill := func(n api.Node) api.Node {
			if i&1 > 0 && len(n.Entries) == 0 {
				n.Entries = someLeaf.Entries[:0]
			}
			if i&2 > 0 && len(n.Pivots) == 0 {
				n.Pivots = []string{}
			}
			if i&4 > 0 && len(n.Kids) == 0 {
				n.Kids = make([]int, 0, 3)
			}
			if i&8 > 0 && len(n.Msgs) == 0 {
				n.Msgs = someIn.Msgs[:0]
			}
			return n
		}
		for _, n := range []api.Node{{}, leafOf(s), someLeaf, innerOf(s, "1"), innerOf(s, "1 b 2"), someIn, {Level: 2}} {
			n = fill(n)
			wantBytes(t, s, n)
			wantAdd(t, s, n, []api.Message{}...)
			wantAdd(t, s, n, messagesOf(s, "a-")...)
			wantApply(t, s, n, messagesOf(s, "a:=2")...)
			wantPlaces(t, s, n)
			wantDraw(t, s, n, 0)
			wantSplit(t, s, n, 1)
			wantMerge(t, s, n, "b", fill(leafOf(s)))
			wantMerge(t, s, fill(innerOf(s, "3")), "a", n)
			wantReplace(t, s, n, 0, 1, []int{}, []string{})
			wantReplace(t, s, n, 0, 1, []int{4}, []string{})
			wantReplace(t, s, n, 0, 1, []int{4}, nil)
		}
	}
	for _, b := range [][]byte{nil, {}, make([]byte, 0, 4)} {
		wantDecode(t, s, b)
	}
}
