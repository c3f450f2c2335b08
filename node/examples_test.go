package node_test

import (
	"slices"
	"testing"

	"arbor/api"
	"arbor/drill"
	"arbor/node"
)

// The chapter's examples, one by one.

func exampleSchema() api.Schema { return drill.SchemaOf("n:int") }

// Example 1.
func TestExamplesOfFits(t *testing.T) {
	for _, x := range []struct {
		c    api.Config
		room int
		want api.Errno
	}{
		{api.Config{Fanout: 4, Leaf: 2, Buffer: 115}, 178, api.OK},
		{api.Config{Fanout: 4, Leaf: 2, Buffer: 115}, 177, api.ErrConfig},
		{api.Config{Fanout: 4, Leaf: 3, Buffer: 115}, 248, api.OK},
		{api.Config{Fanout: 4, Leaf: 3, Buffer: 115}, 247, api.ErrConfig},
		{api.Config{Fanout: 3, Leaf: 2, Buffer: 115}, 8000, api.ErrConfig},
		{api.Config{Fanout: 4, Leaf: 2, Buffer: 114}, 8000, api.ErrConfig},
		{api.Config{Fanout: 65, Leaf: 2, Buffer: 115}, 8000, api.ErrConfig},
	} {
		if e := node.Fits(x.c, x.room); e != x.want {
			t.Errorf("Fits(%v, %d) = %d, want %d", x.c, x.room, e, x.want)
		}
	}
}

// Example 2.
func TestExamplesOfBytes(t *testing.T) {
	s := exampleSchema()
	for _, x := range []struct {
		n    api.Node
		want string
	}{
		{leafOf(s, "a{n=1}", "bc{n=-1}"), "\x01\x02\x01\x61\x01\x02\x02\x62\x63\x01\x01"},
		{leafOf(s), "\x01\x00"},
		{innerOf(s, "5 m 300"), "\x02\x02\x05\x00\x2c\x01\x01\x6d\x00\x00"},
	} {
		if b, e := node.Encode(s, x.n); e != api.OK || string(b) != x.want {
			t.Errorf("Encode(%s) = % x, %d, want % x", shown(s, x.n), b, e, x.want)
		}
		wantBytes(t, s, x.n)
		wantDecode(t, s, []byte(x.want))
	}
}

// Example 3.
func TestExamplesOfChild(t *testing.T) {
	n := innerOf(exampleSchema(), "1 b 2 d 3")
	for key, want := range map[string]int{"a": 0, "b": 1, "c": 1, "d": 2, "": 0} {
		if got := node.Child(n, key); got != want {
			t.Errorf("Child of %q = %d, want %d", key, got, want)
		}
	}
}

// Examples 4 and 5.
func TestExamplesOfAddAndDraw(t *testing.T) {
	s := exampleSchema()
	n, e := wantAdd(t, s, innerOf(s, "1 b 2", "a:=1", "b+2"), messagesOf(s, "a+5", "c-")...)
	wantNode(t, s, "Add", n, e, innerOf(s, "1 b 2", "a:=6", "b+2", "c-"), api.OK)
	none, e := node.Add(s, leafOf(s), messagesOf(s, "a+5")...)
	wantNode(t, s, "Add to a leaf", none, e, api.Node{}, api.ErrNode)

	ms, rest, e := node.Draw(n, 1)
	wantNode(t, s, "Draw", rest, e, innerOf(s, "1 b 2", "a:=6"), api.OK)
	if want := messagesOf(s, "b+2", "c-"); !slices.EqualFunc(ms, want, drill.SameMessage) {
		t.Errorf("Draw = %s", drill.ShownMessages(s, ms))
	}
	ms, rest, e = node.Draw(n, 2)
	wantNode(t, s, "Draw of no kid", rest, e, api.Node{}, api.ErrArg)
	if len(ms) != 0 {
		t.Errorf("Draw of no kid = %s", drill.ShownMessages(s, ms))
	}
}

// Example 6.
func TestExamplesOfApply(t *testing.T) {
	s := exampleSchema()
	n, e := wantApply(t, s, leafOf(s, "a{n=1}", "c{n=3}"), messagesOf(s, "b:=7", "a-", "c+1", "b+1")...)
	wantNode(t, s, "Apply", n, e, leafOf(s, "b{n=8}", "c{n=4}"), api.OK)
	again, e := wantApply(t, s, n, messagesOf(s, "d+1")...)
	wantNode(t, s, "Apply of a sum to nothing", again, e, n, api.OK)
}

// Example 7.
func TestExamplesOfSplitLeaves(t *testing.T) {
	s := exampleSchema()
	five := leafOf(s, "a{n=1}", "b{n=2}", "c{n=3}", "d{n=4}", "e{n=5}")
	nodes, pivots, _ := wantSplit(t, s, five, 2)
	want := []api.Node{leafOf(s, "a{n=1}", "b{n=2}", "c{n=3}"), leafOf(s, "d{n=4}", "e{n=5}")}
	if !slices.EqualFunc(nodes, want, sameNode) || !slices.Equal(pivots, []string{"d"}) {
		t.Errorf("Split into 2 = %s%q", shownNodes(s, nodes), pivots)
	}
	nodes, pivots, _ = wantSplit(t, s, five, 5)
	if len(nodes) != 5 || !slices.Equal(pivots, []string{"b", "c", "d", "e"}) {
		t.Errorf("Split into 5 = %s%q", shownNodes(s, nodes), pivots)
	}
	nodes, pivots, e := wantSplit(t, s, leafOf(s), 1)
	if e != api.OK || !slices.EqualFunc(nodes, []api.Node{leafOf(s)}, sameNode) || len(pivots) != 0 {
		t.Errorf("Split of the empty leaf = %s%q, %d", shownNodes(s, nodes), pivots, e)
	}
	for _, x := range []struct {
		n     api.Node
		parts int
	}{{five, 6}, {leafOf(s), 2}} {
		if nodes, pivots, e := wantSplit(t, s, x.n, x.parts); e != api.ErrArg || len(nodes)+len(pivots) != 0 {
			t.Errorf("Split into %d = %s%q, %d", x.parts, shownNodes(s, nodes), pivots, e)
		}
	}
}

// Examples 8 and 9.
func TestExamplesOfSplitAndReplace(t *testing.T) {
	s := exampleSchema()
	ms := []string{"a+1", "d+1", "f+1", "g+1"}
	n := innerOf(s, "1 b 2 d 3 f 4 h 5", ms...)
	nodes, pivots, _ := wantSplit(t, s, n, 2)
	want := []api.Node{innerOf(s, "1 b 2 d 3", "a+1", "d+1"), innerOf(s, "4 h 5", "f+1", "g+1")}
	if !slices.EqualFunc(nodes, want, sameNode) || !slices.Equal(pivots, []string{"f"}) {
		t.Errorf("Split = %s%q", shownNodes(s, nodes), pivots)
	}
	got, e := wantReplace(t, s, n, 1, 3, []int{9}, nil)
	wantNode(t, s, "Replace by one", got, e, innerOf(s, "1 b 9 f 4 h 5", ms...), api.OK)
	got, e = wantReplace(t, s, n, 1, 3, []int{7, 8, 9}, []string{"c", "e"})
	wantNode(t, s, "Replace by three", got, e, innerOf(s, "1 b 7 c 8 e 9 f 4 h 5", ms...), api.OK)
	got, e = wantReplace(t, s, n, 1, 3, []int{7, 8}, []string{"b"})
	wantNode(t, s, "Replace with a pivot twice", got, e, api.Node{}, api.ErrNode)
}
