package bulk_test

import (
	"slices"
	"testing"

	"arbor/api"
	"arbor/bulk"
	"arbor/drill"
	"arbor/node"
)

// The chapter's examples, one by one.

var (
	exampleSize     = api.Geometry{Sector: 64, Per: 4, Log: 2, Blocks: 40}
	exampleMeasures = api.Config{Fanout: 4, Leaf: 2, Buffer: 115}
)

func example(t *testing.T) *site {
	t.Helper()
	return newSite(t, exampleSize, drill.SchemaOf("n:int"), exampleMeasures)
}

// named: entries of one-letter keys, whose records count from {n=1} on.
func named(keys string) []api.Entry {
	var list []api.Entry
	for i, key := range keys {
		list = append(list, api.Entry{Key: string(key), Vals: []api.Value{{Kind: api.Int, N: int64(i + 1)}}})
	}
	return list
}

func leafOf(keys string, from int) api.Node {
	n := api.Node{Level: 1, Entries: named(keys)}
	for _, entry := range n.Entries {
		entry.Vals[0].N += int64(from)
	}
	return n
}

// wantNodes: in the blocks from 1 on, the last one the root.
func (w *site) wantNodes(root int, e api.Errno, want ...api.Node) {
	w.t.Helper()
	if e != api.OK || root != len(want) || !slices.Equal(drill.Pages(w.p)[:len(want)], []int{1, 2, 3, 4, 5, 6, 7, 8}[:len(want)]) {
		w.t.Fatalf("Build = %d, %d, and the pages %v are in use", root, e, drill.Pages(w.p))
	}
	for i, n := range want {
		f, _ := w.p.Get(i + 1)
		body, e := node.Encode(w.s, n)
		if e != api.OK || string(f.Body) != string(body) || (f.Kind == api.KindLeaf) != (n.Level == 1) {
			w.t.Errorf("in block %d is %c %x, want %x", i+1, f.Kind, f.Body, body)
		}
	}
}

// Example 1.
func TestExamplesOfPages(t *testing.T) {
	for entries, want := range map[int]int{0: 1, 1: 1, 2: 1, 3: 3, 8: 5, 9: 8, -1: 0} {
		if n := bulk.Pages(exampleMeasures, entries); n != want {
			t.Errorf("Pages of %d = %d, want %d", entries, n, want)
		}
	}
	for _, entries := range []int{0, 3, 9} {
		if n := bulk.Pages(api.Config{Fanout: 3, Leaf: 2, Buffer: 115}, entries); n != 0 {
			t.Errorf("Pages with Fanout 3 = %d", n)
		}
	}
}

// Example 2.
func TestExampleOfNoEntries(t *testing.T) {
	w := example(t)
	root, e := bulk.Build(w.p, w.s, w.c)
	w.wantNodes(root, e, api.Node{Level: 1})
}

// Example 3.
func TestExampleOfThreeEntries(t *testing.T) {
	w := example(t)
	root, e := bulk.Build(w.p, w.s, w.c, named("abc")...)
	w.wantNodes(root, e, leafOf("ab", 0), leafOf("c", 2), api.Node{Level: 2, Kids: []int{1, 2}, Pivots: []string{"c"}})
}

// Example 4.
func TestExampleOfNineEntries(t *testing.T) {
	w := example(t)
	root, e := bulk.Build(w.p, w.s, w.c, named("abcdefghi")...)
	w.wantNodes(root, e,
		leafOf("ab", 0), leafOf("cd", 2), leafOf("ef", 4), leafOf("gh", 6), leafOf("i", 8),
		api.Node{Level: 2, Kids: []int{1, 2, 3}, Pivots: []string{"c", "e"}}, api.Node{Level: 2, Kids: []int{4, 5}, Pivots: []string{"i"}},
		api.Node{Level: 3, Kids: []int{6, 7}, Pivots: []string{"g"}})
}

// Example 5.
func TestExamplesOfWrongEntries(t *testing.T) {
	w := example(t)
	w.refused(api.ErrRising, w.c, named("ba")...)
	w.refused(api.ErrRising, w.c, named("aa")...)
	w.refused(api.ErrKey, w.c, append(named("a"), api.Entry{Vals: named("b")[0].Vals})...)
	w.refused(api.ErrValue, w.c, append([]api.Entry{{Key: "a"}}, named("ba")...)...)
}

// Example 6.
func TestExamplesOfAPagerThatRefuses(t *testing.T) {
	w := example(t)
	w.p.Begin()
	if root, e := bulk.Build(w.p, w.s, w.c, named("abc")...); root != 0 || e != api.ErrOp {
		t.Errorf("Build within an operation = %d, %d", root, e)
	}
	if e := w.p.Cancel(); e != api.OK {
		t.Errorf("the operation is not open any more: %d", e)
	}
	numbers := drill.Numbers(1)
	for w.p.Left() > 2 {
		w.putOther(&numbers)
	}
	w.refused(api.ErrFull, w.c, named("abc")...)
	if w.p.Left() != 2 {
		t.Errorf("Left = %d", w.p.Left())
	}
	w.builds(named("ab"))
}
