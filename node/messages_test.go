package node_test

import (
	"math"
	"slices"
	"strings"
	"testing"

	"arbor/api"
	"arbor/drill"
	"arbor/node"
)

// P16.4, P16.5, P16.7: nodes of all sizes.
func TestPlaces(t *testing.T) {
	met := map[int]int{}
	someNodes(183, 1200, func(f drill.Fitting, n api.Node) {
		wantPlaces(t, f.Schema, n)
		met[node.Fullest(f.Schema, n)]++
		for _, kid := range []int{-1, 0, 1, len(n.Kids) / 2, len(n.Kids) - 1, len(n.Kids), math.MinInt, math.MaxInt} {
			wantDraw(t, f.Schema, n, kid)
		}
	})
	if len(met) < 6 {
		t.Errorf("the fullest kids were %v", met)
	}
}

// P16.4, P16.5, P16.7: of whatever node: pivots in any order and twice, more or fewer than kids, messages in any order and of any form, entries beside them, keys that are none.
func TestPlacesOfWhateverNode(t *testing.T) {
	s := exampleSchema()
	numbers := drill.Numbers(184)
	f := drill.Fitting{Schema: s, Numbers: &numbers}
	keys := []string{"", "a", "b", "bb", "c", "d", "\xff", strings.Repeat("k", 17), strings.Repeat("k", 300)}
	wrong := drill.WrongMessages(s)[:40]
	for range 6000 {
		n := api.Node{Level: numbers.Below(5) - 1, Entries: someLeaf(f, 2).Entries}
		for range numbers.Below(5) {
			n.Pivots = append(n.Pivots, drill.Pick(&numbers, keys))
		}
		for range numbers.Below(5) {
			n.Kids = append(n.Kids, numbers.Below(3)-1)
		}
		for range numbers.Below(7) {
			m := f.Message(drill.Pick(&numbers, keys))
			if numbers.Below(6) == 0 {
				m = drill.Pick(&numbers, wrong).Part
			}
			n.Msgs = append(n.Msgs, m)
		}
		wantPlaces(t, s, n)
		for kid := -1; kid <= len(n.Kids); kid++ {
			wantDraw(t, s, n, kid)
		}
	}
	if kid := node.Fullest(s, api.Node{Msgs: messagesOf(s, "a-"), Pivots: []string{"a"}}); kid != 0 {
		t.Errorf("Fullest without kids = %d", kid)
	}
}

// P16.5: of several the first, though more messages wait for another: the bytes count.
func TestFullestCountsBytes(t *testing.T) {
	s := exampleSchema()
	for _, x := range []struct {
		n    api.Node
		want int
	}{
		{innerOf(s, "1 b 2 c 3"), 0},
		{innerOf(s, "1 b 2 c 3", "a-", "b-", "c-"), 0},
		{innerOf(s, "1 b 2 c 3", "b-", "c-"), 1},
		{innerOf(s, "1 b 2 c 3", "c-"), 2},
		{innerOf(s, "1 b 2 c 3", "a-", "a-", "b:=9223372036854775807", "c-"), 1},
		{innerOf(s, "1 b 2 c 3", "a+1", "b-", "b-", "c+1"), 0},
		{innerOf(s, "1 b 2 c 3", "a-", "a-", "b+1", "ccc-", "ccc-"), 2},
		{innerOf(s, "1 b 2 c 3", "zzzz-", "zzzzz-"), 2},
	} {
		if got := node.Fullest(s, x.n); got != x.want {
			t.Errorf("Fullest(%s) = %d, want %d", shown(s, x.n), got, x.want)
		}
	}
}

// P16.6: every list of up to three that wait, and every one of up to three that come, of three keys.
func TestAddOfEveryShortList(t *testing.T) {
	s := exampleSchema()
	some := messagesOf(s, "a+1", "a:=5", "b+2", "b-", "c+3")
	for waiting := range 4 {
		drill.Scripts(some, waiting, func(ms []api.Message) {
			n := innerOf(s, "7 b 8")
			n.Msgs = slices.Clone(ms)
			for come := range 4 {
				if waiting+come > 5 {
					continue
				}
				drill.Scripts(some, come, func(ms []api.Message) { wantAdd(t, s, n, ms...) })
			}
		})
	}
}

// P16.6, P16.8: nodes of all sizes and messages of all kinds, in any order of keys.
func TestAddAndApply(t *testing.T) {
	added, applied, shorter := 0, 0, 0
	someNodes(185, 2500, func(f drill.Fitting, n api.Node) {
		ms := someMessages(f, n, 9)
		in, e := wantAdd(t, f.Schema, n, ms...)
		if e == api.OK {
			added++
			if len(in.Msgs) < len(n.Msgs)+len(ms) {
				shorter++
			}
			if got, _ := wantAdd(t, f.Schema, n); !sameNode(got, n) {
				t.Fatalf("Add of nothing = %s", shown(f.Schema, got))
			}
		}
		if _, e := wantApply(t, f.Schema, n, ms...); e == api.OK {
			applied++
			if got, _ := wantApply(t, f.Schema, n); !sameNode(got, n) {
				t.Fatalf("Apply of nothing = %s", shown(f.Schema, got))
			}
		}
	})
	if added < 1000 || applied < 1000 || shorter < 500 {
		t.Errorf("%d were added to (%d became shorter), %d applied to", added, shorter, applied)
	}
}

// P16.6: what waits for other keys stays as it is, though it could be fewer; codes that together are too long stay apart.
func TestAddFusesNamedKeysAlone(t *testing.T) {
	s := exampleSchema()
	n := innerOf(s, "1", "a-", "a-", "b+1", "b+1", "c:=1", "c+1")
	for _, x := range []struct{ come, want []string }{
		{nil, []string{"a-", "a-", "b+1", "b+1", "c:=1", "c+1"}},
		{[]string{"b+1"}, []string{"a-", "a-", "b+3", "c:=1", "c+1"}},
		{[]string{"a+1"}, []string{"a-", "b+1", "b+1", "c:=1", "c+1"}},
		{[]string{"c+1", "a:=3"}, []string{"a:=3", "b+1", "b+1", "c:=3"}},
		{[]string{"aa+1", "aa+1"}, []string{"a-", "a-", "aa+2", "b+1", "b+1", "c:=1", "c+1"}},
		{[]string{"d-", "\x00-"}, []string{"\x00-", "a-", "a-", "b+1", "b+1", "c:=1", "c+1", "d-"}},
	} {
		got, e := wantAdd(t, s, n, messagesOf(s, x.come...)...)
		wantNode(t, s, strings.Join(x.come, " "), got, e, innerOf(s, "1", x.want...), api.OK)
	}
	long := api.Message{Kind: api.MUpsert, Key: "k", Code: []byte(strings.Repeat("\x18\x17", 40))}
	in := innerOf(s, "1")
	for range 5 {
		in, _ = wantAdd(t, s, in, long)
	}
	wantAdd(t, s, innerOf(s, "1"), slices.Repeat([]api.Message{long}, 5)...)
}

// P16.6: a sound node may have every block as a kid, and no more.
func TestEveryBlockAsAKid(t *testing.T) {
	s := exampleSchema()
	n := api.Node{Level: 2, Kids: []int{0}}
	for i := 1; i < api.MaxBlocks; i++ {
		n.Kids, n.Pivots = append(n.Kids, i), append(n.Pivots, string([]byte{byte(i >> 8), byte(i)}))
	}
	if got, e := wantAdd(t, s, n, messagesOf(s, "a-")...); e != api.OK || len(got.Kids) != 2048 {
		t.Errorf("Add with all blocks as kids: %d kids, %d", len(got.Kids), e)
	}
	n.Pivots = append(n.Pivots, "\xff\xff")
	for _, one := range []int{0, 2047, 2048, -1} {
		if _, e := wantAdd(t, s, api.Node{Level: 2, Pivots: n.Pivots, Kids: append(slices.Clone(n.Kids), one)}); e != api.ErrNode {
			t.Errorf("Add with one kid more than there are blocks = %d", e)
		}
	}
}

// P16.6, P16.8: more than any page has: nodes that are too full for it, and very many messages.
func TestManyKeys(t *testing.T) {
	s := exampleSchema()
	var come []api.Message
	for i := range 20000 {
		key := []byte{byte(i * 7), byte(i * 7 >> 8), byte(i % 3)}
		come = append(come, api.Message{Kind: api.MPut, Key: string(key), Vals: []api.Value{{Kind: api.Int, N: int64(i)}}}, api.Message{Kind: api.MUpsert, Key: string(key), Code: drill.CodeBytes(drill.CodeOf("push 1; addto 0"))})
	}
	got, e := node.Add(s, innerOf(s, "1 m 2"), come...)
	want, _ := bookAdd(s, innerOf(s, "1 m 2"), come)
	if e != api.OK || !sameNode(got, want) || len(got.Msgs) != 20000 {
		t.Errorf("Add of very many messages: %d of them, %d", len(got.Msgs), e)
	}
	leaf, e := node.Apply(s, leafOf(s), come...)
	wantLeaf, _ := bookApply(s, leafOf(s), come)
	if e != api.OK || !sameNode(leaf, wantLeaf) || len(leaf.Entries) != 20000 {
		t.Errorf("Apply of very many messages: %d entries, %d", len(leaf.Entries), e)
	}
	again, e := node.Add(s, got, come[:100]...)
	if e != api.OK || len(again.Msgs) != 20000 {
		t.Errorf("Add to very many messages: %d of them, %d", len(again.Msgs), e)
	}
	less, e := node.Apply(s, leaf, messagesOf(s, "m-")...)
	if e != api.OK || len(less.Entries) != 20000 {
		t.Errorf("Apply to very many entries: %d of them, %d", len(less.Entries), e)
	}
}

// R1: lists far longer than any node has, in calls that look at all of them.
func TestVeryLongLists(t *testing.T) {
	s := exampleSchema()
	n := api.Node{Level: 2}
	for i := range 1 << 17 {
		key := string([]byte{byte(i >> 16), byte(i >> 8), byte(i)})
		n.Pivots, n.Kids = append(n.Pivots, key), append(n.Kids, i)
		n.Msgs = append(n.Msgs, api.Message{Kind: api.MDelete, Key: key})
	}
	n.Pivots = n.Pivots[1:]
	if kid := node.Fullest(s, n); kid != 0 {
		t.Errorf("Fullest = %d", kid)
	}
	slices.Reverse(n.Pivots)
	if ms, rest, e := node.Draw(n, 1000); e != api.OK || len(ms) != 1 || ms[0].Key != "\x00\x03\xe8" || len(rest.Msgs) != 1<<17-1 {
		t.Errorf("Draw: %d messages, %d stay, %d", len(ms), len(rest.Msgs), e)
	}
	if _, _, e := node.Split(n, 2); e != api.ErrNode {
		t.Errorf("Split of falling pivots = %d", e)
	}
	slices.Reverse(n.Pivots)
	nodes, pivots, e := node.Split(n, 1<<16)
	if e != api.OK || len(nodes) != 1<<16 || len(pivots) != 1<<16-1 || len(nodes[9].Msgs) != 2 || nodes[9].Msgs[1].Key != "\x00\x00\x13" {
		t.Errorf("Split: %d nodes, %d pivots, %d", len(nodes), len(pivots), e)
	}
	if got, e := node.Merge(nodes[0], pivots[0], nodes[1]); e != api.OK || len(got.Kids) != 4 {
		t.Errorf("Merge: %d kids, %d", len(got.Kids), e)
	}
	if got, e := node.Replace(n, 1, 1<<17-1, []int{3}, nil); e != api.OK || len(got.Kids) != 3 || len(got.Pivots) != 2 {
		t.Errorf("Replace: %d kids, %d", len(got.Kids), e)
	}
	for name, e := range map[string]api.Errno{
		"Check":  node.Check(s, api.Config{Fanout: 4, Leaf: 2, Buffer: 115}, n),
		"Encode": second(node.Encode(s, n)),
		"Add":    second(node.Add(s, n, n.Msgs[0])),
		"Apply":  second(node.Apply(s, n, n.Msgs[0])),
	} {
		if e != api.ErrNode {
			t.Errorf("%s of more kids than there are blocks = %d", name, e)
		}
	}
}

func second[Part any](_ Part, e api.Errno) api.Errno { return e }
