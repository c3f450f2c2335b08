package node_test

import (
	"math"
	"strings"
	"testing"

	"arbor/api"
	"arbor/drill"
	"arbor/node"
)

// everyNode: of all levels and lists at the edges, those that may be and those that may not, put together in every way.
func everyNode(each func(n api.Node)) {
	s, long := exampleSchema(), strings.Repeat("k", 17)
	wrongRecord := api.Node{Level: 1, Entries: []api.Entry{{Key: "a"}}}
	entries := []api.Node{
		{}, leafOf(s, "a{n=1}"), leafOf(s, "a{n=1}", "b{n=2}"), leafOf(s, "a{n=1}", "aa{}", "b{}"), leafOf(s, "b{n=1}", "a{n=2}"), leafOf(s, "a{}", "c{}", "b{}"), leafOf(s, "a{}", "a{}"),
		leafOf(s, "{}"), leafOf(s, "{}", "a{}"), leafOf(s, long+"{}"), leafOf(s, long[1:]+"{}"), wrongRecord,
	}
	pivots := [][]string{nil, {"b"}, {"b", "d"}, {"d", "b"}, {"b", "b"}, {""}, {"", "b"}, {long}, {"b", long[1:]}, {"b", "d", "c"}, {"b", "c", "d"}}
	kids := [][]int{nil, {1}, {1, 2}, {2, 1}, {0, 2047}, {0, 2048}, {-1, 1}, {1, 1}, {1, 2, 3}, {1, 2, 1}, {3, 2, 1}, {1, 2, 3, 4}, {math.MaxInt, math.MinInt}}
	msgs := [][]api.Message{
		nil, messagesOf(s, "a-"), messagesOf(s, "a-", "a:=1"), messagesOf(s, "a+1", "b:=1", "b+1", "d-"), messagesOf(s, "b-", "a-"), messagesOf(s, "a-", "c-", "b-"),
		{{Kind: 4, Key: "a"}}, {{Kind: api.MDelete, Key: "a"}, {Kind: api.MDelete, Key: long}}, {{Kind: api.MPut, Key: "a"}},
	}
	for _, level := range []int{1, 2, 3, 255, 256, 0, -1, math.MaxInt, math.MinInt, 257, 1 << 32, 1<<32 + 1} {
		for _, e := range entries {
			for _, p := range pivots {
				for _, k := range kids {
					for _, m := range msgs {
						each(api.Node{Level: level, Entries: e.Entries, Pivots: p, Kids: k, Msgs: m})
					}
				}
			}
		}
	}
}

// P16.2 to P16.11: every such node, in each call.
func TestEveryNode(t *testing.T) {
	s := exampleSchema()
	c := api.Config{Fanout: 4, Leaf: 2, Buffer: 115}
	come := messagesOf(s, "b+1", "a-", "b+1")
	count, right, leaves := 0, 0, 0
	everyNode(func(n api.Node) {
		count++
		ok := wantBytes(t, s, n)
		wantCheck(t, s, c, n)
		if ok == api.OK {
			right++
		}
		if got, e := node.Add(s, n, come...); e == api.OK || bookSound(s, n) {
			want, wantE := bookAdd(s, n, come)
			wantNode(t, s, "Add", got, e, want, wantE)
		}
		if got, e := node.Apply(s, n, come...); e == api.OK || bookSound(s, n) {
			leaves++
			want, wantE := bookApply(s, n, come)
			wantNode(t, s, "Apply", got, e, want, wantE)
		}
		for parts := -1; parts <= 5; parts++ {
			wantSplit(t, s, n, parts)
		}
		wantReplace(t, s, n, 0, 1, []int{5, 6}, []string{"a"})
		wantMerge(t, s, n, "z", api.Node{Level: n.Level, Kids: []int{9}})
		wantMerge(t, s, api.Node{Level: n.Level, Kids: []int{9}}, "a", n)
		wantMerge(t, s, n, "z", api.Node{Level: 1})
		if count%7 == 0 {
			wantPlaces(t, s, n)
			for kid := -1; kid <= 4; kid++ {
				wantDraw(t, s, n, kid)
			}
		}
	})
	if right < 50 || leaves < 50 {
		t.Errorf("only %d of %d nodes fit a page, only %d were asked as leaves", right, count, leaves)
	}
}

// P16.2, P16.3, P16.6, P16.8: with records and messages of every schema, right and wrong ones at every place.
func TestWrongContents(t *testing.T) {
	for _, s := range drill.Schemas() {
		c := api.Config{Fanout: 64, Leaf: 64, Buffer: 1 << 20}
		records := drill.Records(s)
		keys := []string{"a", "b", "c"}
		for _, vals := range drill.WrongRecords(s) {
			for wrong := range keys {
				n := api.Node{Level: 1}
				for i, key := range keys {
					n.Entries = append(n.Entries, api.Entry{Key: key, Vals: records[i]})
				}
				wantApply(t, s, n)
				n.Entries[wrong].Vals = vals
				wantBytes(t, s, n)
				wantCheck(t, s, c, n)
				if _, e := wantApply(t, s, n); e != api.ErrNode {
					t.Fatalf("Apply to a wrong record = %d", e)
				}
			}
		}
		for _, w := range drill.WrongMessages(s) {
			for wrong := range keys {
				n := api.Node{Level: 2, Kids: []int{1, 2}, Pivots: []string{"b"}}
				for _, key := range keys {
					n.Msgs = append(n.Msgs, api.Message{Kind: api.MPut, Key: key, Vals: records[0]})
				}
				n.Msgs[wrong] = w.Part
				if n.Msgs[wrong].Key == "k" {
					n.Msgs[wrong].Key = keys[wrong]
				}
				wantBytes(t, s, n)
				wantCheck(t, s, c, n)
				wantPlaces(t, s, n)
				if _, e := wantAdd(t, s, n); e != api.ErrNode {
					t.Fatalf("Add to a wrong message = %d", e)
				}
			}
		}
	}
}

// P16.6, P16.8: the schema's error first, then that of the node, then that of the first wrong message.
func TestOrderOfErrors(t *testing.T) {
	s := drill.Schemas()[0]
	in, leaf := api.Node{Level: 2, Kids: []int{1}}, api.Node{Level: 1}
	right := drill.MessageOf(s, "delete k")
	wrong := drill.WrongMessages(s)
	for i, w := range wrong {
		other := wrong[(i*7+3)%len(wrong)].Part
		for _, ms := range [][]api.Message{{w.Part}, {w.Part, other}, {right, w.Part}, {right, right, w.Part, right, other}} {
			if _, e := wantAdd(t, s, in, ms...); e != w.Errno {
				t.Errorf("Add(%s) = %d, want %d", drill.ShownMessages(s, ms), e, w.Errno)
			}
			if _, e := wantApply(t, s, leaf, ms...); e != w.Errno {
				t.Errorf("Apply(%s) = %d, want %d", drill.ShownMessages(s, ms), e, w.Errno)
			}
			for _, n := range []api.Node{leaf, {}, {Level: 256, Kids: []int{1}}, {Level: 2, Kids: []int{1, 1}, Pivots: []string{"b"}}} {
				if _, e := wantAdd(t, s, n, ms...); e != api.ErrNode {
					t.Errorf("Add to no inner node = %d", e)
				}
			}
			for _, n := range []api.Node{in, {}, {Level: 1, Entries: []api.Entry{{Key: "a"}}}} {
				if _, e := wantApply(t, s, n, ms...); e != api.ErrNode {
					t.Errorf("Apply to no leaf = %d", e)
				}
			}
		}
	}
	for _, none := range drill.WrongSchemas() {
		for _, n := range []api.Node{in, leaf, {}, innerOf(exampleSchema(), "1 b 2", "a-")} {
			for _, ms := range [][]api.Message{nil, {right}, {{}}} {
				wantAdd(t, none, n, ms...)
				wantApply(t, none, n, ms...)
			}
			wantBytes(t, none, n)
			wantCheck(t, none, api.Config{}, n)
			wantCheck(t, none, api.Config{Fanout: 4, Leaf: 2, Buffer: 115}, n)
			if n, e := node.Decode(none, []byte("\x01\x00")); e != api.ErrSchema || !sameNode(n, api.Node{}) {
				t.Errorf("Decode with no schema = %s, %d", shown(none, n), e)
			}
			if node.Waiting(none, n) != 0 || node.Fullest(none, n) != 0 {
				t.Errorf("with no schema %d bytes wait, most of them for %d", node.Waiting(none, n), node.Fullest(none, n))
			}
		}
	}
}
