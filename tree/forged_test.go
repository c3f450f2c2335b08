package tree_test

import (
	"slices"
	"strings"
	"testing"

	"arbor/api"
	"arbor/drill"
	"arbor/node"
	"arbor/tree"
)

// R1: pages that are nodes' and make no tree, put by somebody: every call ends, and one that is refused changes nothing. What they answer is not promised.

// forge: some nodes' pages of each level, each over any pages of the level below: the block of the last one.
func forge(w *world, f drill.Fitting, levels int) int {
	w.t.Helper()
	var below []int
	for level := 1; level <= levels; level++ {
		var blocks []int
		for range 2 + f.Numbers.Below(8) {
			n := forgedLeaf(f, w.c.Leaf)
			if level > 1 {
				n = forgedInner(f, level, below)
			}
			blocks = append(blocks, w.putNode(n))
		}
		below = blocks
	}
	return below[len(below)-1]
}

func forgedLeaf(f drill.Fitting, most int) api.Node {
	n := api.Node{Level: 1}
	for range f.Numbers.Below(most + 1) {
		n.Entries = append(n.Entries, api.Entry{Key: drill.SomeKey(f.Numbers, 30), Vals: f.Record()})
	}
	slices.SortFunc(n.Entries, func(a, b api.Entry) int { return strings.Compare(a.Key, b.Key) })
	n.Entries = slices.CompactFunc(n.Entries, func(a, b api.Entry) bool { return a.Key == b.Key })
	return n
}

// forgedInner: pivots and messages wherever chance puts them.
func forgedInner(f drill.Fitting, level int, below []int) api.Node {
	n := api.Node{Level: level, Pivots: []string{drill.SomeKey(f.Numbers, 30)}}
	for range f.Numbers.Below(min(3, len(below)-1)) {
		n.Pivots = append(n.Pivots, drill.SomeKey(f.Numbers, 30))
	}
	slices.Sort(n.Pivots)
	n.Pivots = slices.Compact(n.Pivots)
	start := f.Numbers.Below(len(below))
	for i := range len(n.Pivots) + 1 {
		n.Kids = append(n.Kids, below[(start+i)%len(below)])
	}
	if f.Numbers.Below(20) == 0 {
		n.Kids[0] = 0 // the map's block
	}
	for range f.Numbers.Below(4) {
		m := f.Message(drill.SomeKey(f.Numbers, 30))
		if sizeOf(f.Schema, append(n.Msgs, m)...) <= 115 {
			n.Msgs = append(n.Msgs, m)
		}
	}
	slices.SortStableFunc(n.Msgs, func(a, b api.Message) int { return strings.Compare(a.Key, b.Key) })
	return n
}

func TestForgedTrees(t *testing.T) {
	numbers := drill.Numbers(198)
	ended := map[api.Errno]int{}
	for try := range 400 {
		c := drill.Measures()[try%4]
		w := plant(t, drill.GeometryOf(c, 400), drill.Pick(&numbers, drill.Schemas()), c)
		f := drill.Fitting{Schema: w.s, Numbers: &numbers}
		root := forge(w, f, 1+numbers.Below(5))
		x, e := tree.Load(w.p, w.s, c, root)
		if e != api.OK {
			t.Fatalf("Load = %d", e)
		}
		w.x = x
		for range 12 {
			root, left := x.Root(), w.p.Left()
			e := x.Apply(some(f, 30, 12)...)
			ended[e]++
			if e != api.OK && (x.Root() != root || w.p.Left() != left) {
				t.Fatalf("%v: a call that was refused with %d changed the pages", c, e)
			}
			x.Get(drill.SomeKey(&numbers, 30))
			x.Height()
			x.Scan(drill.SomeKey(&numbers, 30), drill.SomeKey(&numbers, 30), 5)
			all(x, "", "", 1000)
		}
		if e := w.p.Begin(); e != api.OK {
			t.Fatalf("an operation is open still: %d", e)
		}
	}
	if ended[api.OK] < 100 || ended[api.ErrDamaged] < 100 {
		t.Errorf("the calls ended so: %v", ended)
	}
}

// Load says nothing of the pages below the root: a tree that is loaded for other measures goes on under these, and every key keeps its row.
func TestOtherMeasures(t *testing.T) {
	numbers := drill.Numbers(199)
	big := api.Config{Fanout: 64, Leaf: 64, Buffer: 6000}
	for _, c := range drill.Measures() {
		for _, other := range drill.Measures() {
			s := drill.Pick(&numbers, drill.Schemas())
			w := plant(t, drill.GeometryOf(big, 900), s, c)
			f := drill.Fitting{Schema: s, Numbers: &numbers}
			for range 60 {
				w.apply(some(f, 80, 4)...)
			}
			x, e := tree.Load(w.p, s, other, w.x.Root())
			if e == api.ErrNode {
				continue // the root itself is too much
			}
			w.c, w.x = other, x
			for range 40 {
				w.apply(some(f, 80, 4)...)
			}
			w.holds(x)
		}
	}
}

// putNode: a node's page that somebody puts.
func (w *world) putNode(n api.Node) int {
	w.t.Helper()
	kind := byte('I')
	if n.Level == 1 {
		kind = 'L'
	}
	body, e := node.Encode(w.s, n)
	if e != api.OK {
		w.t.Fatalf("Encode = %d", e)
	}
	block, e := w.p.Put(kind, body)
	if e != api.OK {
		w.t.Fatalf("Put = %d", e)
	}
	return block
}

// comb: a tree that has at each level one node alone, in which there is room for no more kids: all but the first of them are no pages.
func (w *world) comb(high int) *tree.Tree {
	w.t.Helper()
	block := w.putNode(api.Node{Level: 1})
	for level := 2; level <= high; level++ {
		var pivots []string
		for last := range 3 {
			pivots = append(pivots, string([]byte{byte(level), byte(last)}))
		}
		block = w.putNode(api.Node{Level: level, Kids: []int{block, 1897, 1898, 1899}, Pivots: pivots})
	}
	return w.load(w.p, block)
}

// Of a level above 255 there is no page: a root of that level that would have to be split cannot be.
func TestHighestLevel(t *testing.T) {
	for high := 252; high <= 255; high++ {
		w := plant(t, drill.GeometryOf(exampleMeasures, 1900), drill.SchemaOf("n:int"), exampleMeasures)
		f := drill.Fitting{Schema: w.s, Numbers: new(drill.Numbers)}
		w.x = w.comb(high)
		var ms []api.Message
		for number := range 40 {
			ms = append(ms, putOf(f, inOrder(number)))
		}
		if high == 255 {
			w.refused(api.ErrDamaged, ms...)
			w.wantHeight(255)
		} else {
			w.apply(ms...)
			w.wantHeight(high + 1)
		}
		for _, m := range ms {
			w.gets(w.x, m.Key)
		}
		if _, e := w.x.Get("\xff\xff"); e != api.ErrBlock {
			t.Errorf("Get of a key whose leaf is no page = %d", e)
		}
		w.scans(w.x, "", "\x02")
	}
}
