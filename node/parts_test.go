package node_test

import (
	"math"
	"slices"
	"testing"

	"arbor/api"
	"arbor/drill"
	"arbor/node"
)

// P16.9: nodes of all sizes into every number of parts.
func TestSplit(t *testing.T) {
	split := 0
	someNodes(186, 400, func(f drill.Fitting, n api.Node) {
		units := len(n.Entries) + len(n.Kids)
		for parts := -1; parts <= units+2; parts++ {
			nodes, pivots, e := wantSplit(t, f.Schema, n, parts)
			if e == api.OK && (len(nodes) != parts || len(pivots) != parts-1) {
				t.Fatalf("Split into %d: %d nodes, %d pivots", parts, len(nodes), len(pivots))
			}
			if e == api.OK {
				split++
			}
		}
		for _, parts := range []int{math.MinInt, math.MaxInt, 1 << 32, 1<<32 + 1, -1 << 32} {
			if _, _, e := wantSplit(t, f.Schema, n, parts); e != api.ErrArg {
				t.Fatalf("Split into %d = %d", parts, e)
			}
		}
	})
	if split < 5000 {
		t.Errorf("only %d were split", split)
	}
}

// P16.9 to P16.11: only the shape is asked for: keys, records, kids and messages may be such as no store has.
func TestShapeAloneCounts(t *testing.T) {
	s := exampleSchema()
	long := string(make([]byte, 300))
	leaf := api.Node{Level: 1, Entries: []api.Entry{{Key: ""}, {Key: long}, {Key: "b", Vals: make([]api.Value, 9)}}}
	in := api.Node{Level: 1 << 40, Kids: []int{-1, -1, math.MaxInt}, Pivots: []string{"", long}, Msgs: []api.Message{{}, {Kind: 9, Key: long}, {Key: "z", Code: []byte{0}}}}
	for parts := range 5 {
		wantSplit(t, s, leaf, parts)
		wantSplit(t, s, in, parts)
	}
	for _, pivot := range []string{"", "a", "z", "\xff", long} {
		for _, n := range []api.Node{leaf, in} {
			wantMerge(t, s, n, pivot, api.Node{Level: n.Level})
			wantMerge(t, s, api.Node{Level: n.Level}, pivot, n)
			wantMerge(t, s, n, pivot, api.Node{Level: n.Level, Kids: []int{-5}})
			wantMerge(t, s, api.Node{Level: n.Level, Kids: []int{-5}}, pivot, n)
			wantMerge(t, s, n, pivot, n)
		}
	}
	if _, e := wantMerge(t, s, in, "zz", api.Node{Level: 1 << 40, Kids: []int{-1}}); e != api.OK {
		t.Errorf("Merge = %d", e)
	}
	if _, e := wantReplace(t, s, in, 1, 2, []int{-7, -7}, []string{"\x00"}); e != api.OK {
		t.Errorf("Replace = %d", e)
	}
}

// P16.10: every two small nodes with every pivot.
func TestMergeOfEveryTwo(t *testing.T) {
	s := exampleSchema()
	nodes := []api.Node{
		leafOf(s), leafOf(s, "a{}"), leafOf(s, "b{}"), leafOf(s, "c{}"), leafOf(s, "a{}", "b{}"), leafOf(s, "b{}", "c{}"), leafOf(s, "c{}", "d{}"), leafOf(s, "b{}", "a{}"),
		innerOf(s, "1"), innerOf(s, "1 a 2"), innerOf(s, "3 b 4"), innerOf(s, "1 a 2 b 3"), innerOf(s, "1 c 2"), innerOf(s, "1 c 2 d 3"), innerOf(s, "1 d 2 c 3"), innerOf(s, "1 b 2 b 3"),
		innerOf(s, "1", "a-"), innerOf(s, "1", "b-"), innerOf(s, "1", "b-", "b+1"), innerOf(s, "1", "c-"), innerOf(s, "1", "a-", "c-"), innerOf(s, "1", "c-", "a-"), innerOf(s, "1 b 2", "a-"), innerOf(s, "1 c 2", "b-", "c-"),
		{}, {Level: 2}, {Level: 1, Kids: []int{1}}, {Level: 2, Kids: []int{1}, Entries: leafOf(s, "a{}").Entries},
	}
	for _, n := range slices.Clone(nodes) {
		n.Level++
		nodes = append(nodes, n)
	}
	merged := 0
	for _, a := range nodes {
		for _, b := range nodes {
			for _, pivot := range []string{"", "a", "aa", "b", "ba", "c", "d", "e"} {
				if _, e := wantMerge(t, s, a, pivot, b); e == api.OK {
					merged++
				}
			}
		}
	}
	if merged < 300 {
		t.Errorf("only %d were merged", merged)
	}
}

// P16.10: long nodes, with pivots at the keys at their ends.
func TestMergeOfNeighbours(t *testing.T) {
	merged, refused := 0, 0
	someNodes(187, 1500, func(f drill.Fitting, n api.Node) {
		other := someLeaf(f, 4)
		if n.Level > 1 {
			other = someInner(f, 5, 4)
			other.Level = n.Level
		}
		ends := slices.Concat(keysOf(n.Entries), n.Pivots, keysOfMessages(n.Msgs), keysOf(other.Entries), other.Pivots, keysOfMessages(other.Msgs), []string{"", "\xff\xff\xff\xff"})
		for range 6 {
			pivot := drill.Pick(f.Numbers, ends)
			if f.Numbers.Below(2) == 0 {
				pivot += "\x00"
			}
			left, right := cutAt(n, pivot), cutFrom(other, pivot)
			if f.Numbers.Below(3) == 0 {
				left = n
			}
			if f.Numbers.Below(3) == 0 {
				right = other
			}
			if _, e := wantMerge(t, f.Schema, left, pivot, right); e == api.OK {
				merged++
			} else {
				refused++
			}
		}
	})
	if merged < 1000 || refused < 1000 {
		t.Errorf("%d were merged, %d were not", merged, refused)
	}
}

// cutAt: what of a node is below a pivot. cutFrom: the rest.
func cutAt(n api.Node, pivot string) api.Node {
	return picked(n, func(key string) bool { return key < pivot }, func(key string) bool { return key < pivot })
}

func cutFrom(n api.Node, pivot string) api.Node {
	return picked(n, func(key string) bool { return key >= pivot }, func(key string) bool { return key > pivot })
}

func picked(n api.Node, key, pivot func(string) bool) api.Node {
	out := api.Node{Level: n.Level}
	for _, e := range n.Entries {
		if key(e.Key) {
			out.Entries = append(out.Entries, e)
		}
	}
	for _, p := range n.Pivots {
		if pivot(p) {
			out.Pivots = append(out.Pivots, p)
		}
	}
	if n.Level > 1 {
		out.Kids = n.Kids[:len(out.Pivots)+1]
	}
	for _, m := range n.Msgs {
		if key(m.Key) {
			out.Msgs = append(out.Msgs, m)
		}
	}
	return out
}

// P16.11: every range of small nodes, with every few kids and pivots.
func TestReplaceOfEveryRange(t *testing.T) {
	s := exampleSchema()
	nodes := []api.Node{
		innerOf(s, "1"), innerOf(s, "1 b 2"), innerOf(s, "1 b 2 d 3"), innerOf(s, "1 b 2 d 3 f 4", "a-", "c-", "c+1", "f-"), innerOf(s, "4", "a-"),
		leafOf(s), leafOf(s, "a{}"), {}, innerOf(s, "1 d 2 b 3"), innerOf(s, "1 b 2", "b-", "a-"), {Level: 2, Kids: []int{1, 2}}, {Level: 2, Pivots: []string{"a"}, Kids: []int{1}},
	}
	edges := []int{math.MinInt, -1, 0, 1, 2, 3, 4, 5, 1 << 32, math.MaxInt}
	pivots := []string{"a", "b", "c", "d", "e", "g", ""}
	replaced := 0
	for _, n := range nodes {
		for _, from := range edges {
			for _, to := range edges {
				for length := range 3 {
					drill.Scripts(pivots, length, func(pivots []string) {
						for _, kids := range [][]int{nil, {9}, {9, 8}, {9, 9, 1}} {
							if _, e := wantReplace(t, s, n, from, to, kids, pivots); e == api.OK {
								replaced++
							}
						}
					})
				}
			}
		}
	}
	if replaced < 200 {
		t.Errorf("only %d were replaced", replaced)
	}
}

// P16.11: of a node without the shape and ranges that are none, the node is told; of a wrong range and pivots that fall, the range.
func TestReplaceErrors(t *testing.T) {
	s := exampleSchema()
	for _, n := range []api.Node{{}, leafOf(s, "a{}"), innerOf(s, "1 d 2 b 3")} {
		if _, e := node.Replace(n, 5, -5, nil, []string{"b", "a"}); e != api.ErrNode {
			t.Errorf("Replace of %s = %d", shown(s, n), e)
		}
	}
	n := innerOf(s, "1 b 2 d 3")
	for _, x := range []struct{ from, to int }{{-1, 1}, {1, 1}, {2, 1}, {0, 4}, {math.MinInt, math.MaxInt}} {
		if _, e := node.Replace(n, x.from, x.to, []int{7, 8, 9}, []string{"z", "a"}); e != api.ErrArg {
			t.Errorf("Replace(%d, %d) = %d", x.from, x.to, e)
		}
	}
}
