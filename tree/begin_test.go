package tree_test

import (
	"math"
	"strings"
	"testing"

	"arbor/api"
	"arbor/drill"
	"arbor/node"
	"arbor/pager"
	"arbor/tree"
)

// P17.1: one page is written, none is read: a leaf without entries.
func TestNew(t *testing.T) {
	for _, s := range drill.Schemas() {
		for _, c := range drill.Measures() {
			w := plant(t, drill.GeometryOf(c, 9), s, c)
			var x *tree.Tree
			if reads, writes := w.costs(func() { x = w.newTree() }); reads != 0 || writes != 1 {
				t.Errorf("New(%v) reads %d pages and writes %d", c, reads, writes)
			}
			if f, e := w.p.Get(x.Root()); e != api.OK || f.Kind != 'L' || string(f.Body) != "\x01\x00" {
				t.Errorf("New(%v): the root's page is %v, %d", c, f, e)
			}
			if high, e := x.Height(); e != api.OK || high != 1 || x.Root() == w.x.Root() {
				t.Errorf("New(%v): Height = %d, %d, Root = %d", c, high, e, x.Root())
			}
			w.scans(x, "", "")
			w.gets(x, "a")
		}
	}
}

// wrongMeasures: for the room of a page of 256 bytes.
func wrongMeasures() []api.Config {
	return []api.Config{
		{}, {Fanout: 4, Leaf: 2, Buffer: 114}, {Fanout: 3, Leaf: 2, Buffer: 115}, {Fanout: 4, Leaf: 1, Buffer: 115},
		{Fanout: 65, Leaf: 2, Buffer: 115}, {Fanout: 4, Leaf: 65, Buffer: 115}, {Fanout: 4, Leaf: 3, Buffer: 115},
		{Fanout: 4, Leaf: 2, Buffer: 179}, {Fanout: 8, Leaf: 2, Buffer: 115}, {Fanout: 4, Leaf: 2, Buffer: math.MaxInt},
		{Fanout: -1, Leaf: -1, Buffer: -1}, {Fanout: math.MaxInt, Leaf: 2, Buffer: 115}, {Fanout: 4, Leaf: math.MinInt, Buffer: 115},
	}
}

// P17.1, P17.2, R2, R3, R9: the errors of both in their order: nil pager, schema, measures.
func TestWrongBeginnings(t *testing.T) {
	w := example(t)
	want := func(p *pager.Pager, s api.Schema, c api.Config, root int, want api.Errno) {
		t.Helper()
		left, was := w.p.Left(), w.d.Stats()
		if x, e := tree.New(p, s, c); x != nil || e != want {
			t.Errorf("New(%v) = %v, %d, want %d", c, x, e, want)
		}
		if x, e := tree.Load(p, s, c, root); x != nil || e != want {
			t.Errorf("Load(%v, %d) = %v, %d, want %d", c, root, x, e, want)
		}
		if w.p.Left() != left || w.d.Stats() != was {
			t.Errorf("a refused beginning touches the pages")
		}
	}
	wrong := wrongMeasures()
	for _, s := range append(drill.WrongSchemas(), w.s) {
		for _, c := range append(wrong, w.c) {
			want(nil, s, c, w.x.Root(), api.ErrArg)
		}
	}
	for _, s := range drill.WrongSchemas() {
		for _, c := range append(wrong, w.c) {
			want(w.p, s, c, w.x.Root(), api.ErrSchema)
			want(w.p, s, c, -7, api.ErrSchema)
		}
	}
	for _, c := range wrong {
		want(w.p, w.s, c, w.x.Root(), api.ErrConfig)
		want(w.p, w.s, c, math.MaxInt, api.ErrConfig)
	}
	for _, c := range []api.Config{{Fanout: 4, Leaf: 2, Buffer: 178}, {Fanout: 7, Leaf: 2, Buffer: 121}} {
		if x, e := tree.New(w.p, w.s, c); x == nil || e != api.OK {
			t.Errorf("New(%v), for which a page has just room, = %v, %d", c, x, e)
		}
	}
}

// P17.1: the pager's error.
func TestNewWithoutRoomOrPower(t *testing.T) {
	w := plant(t, drill.GeometryOf(exampleMeasures, 4), drill.SchemaOf("n:int"), exampleMeasures)
	w.newTree()
	if x, e := tree.New(w.p, w.s, w.c); x != nil || e != api.ErrFull {
		t.Errorf("New in a full pager = %v, %d", x, e)
	}
	w = example(t)
	w.d.Arm(2)
	if x, e := tree.New(w.p, w.s, w.c); x != nil || e != api.ErrPower {
		t.Errorf("New with which the power goes = %v, %d", x, e)
	}
	if x, e := tree.Load(w.p, w.s, w.c, w.x.Root()); x != nil || e != api.ErrPower {
		t.Errorf("Load without power = %v, %d", x, e)
	}
	if x, e := tree.Load(w.p, w.s, w.c, 99); x != nil || e != api.ErrBlock {
		t.Errorf("Load of no page without power = %v, %d", x, e)
	}
}

// P17.2: of a tree that is loaded the root's page is read, once, and no other; it holds the same.
func TestLoad(t *testing.T) {
	numbers := drill.Numbers(171)
	for _, c := range drill.Measures() {
		w := grown(t, c, &numbers, 60)
		var x *tree.Tree
		if reads, writes := w.costs(func() { x = w.load(w.p, w.x.Root()) }); reads != 1 || writes != 0 {
			t.Errorf("Load reads %d pages and writes %d", reads, writes)
		}
		w.holds(x)
		if x.Root() != w.x.Root() {
			t.Errorf("Load(%d): Root = %d", w.x.Root(), x.Root())
		}
		hurt := w.damaged(func(at drill.Spot) bool { return at.Block == w.x.Root() })
		w.load(hurt.p, w.x.Root())
	}
}

// P17.2: the page's error.
func TestLoadOfNoPage(t *testing.T) {
	w := acd(t)
	for _, block := range []int{-1, 400, math.MaxInt, math.MinInt, 300, 0} { // in 0 is Format's map
		if x, e := tree.Load(w.p, w.s, w.c, block); x != nil || e != api.ErrBlock {
			t.Errorf("Load(%d) = %v, %d", block, x, e)
		}
	}
	hurt := w.damaged(func(drill.Spot) bool { return false })
	if x, e := tree.Load(hurt.p, w.s, w.c, w.x.Root()); x != nil || e != api.ErrDamaged {
		t.Errorf("Load of a damaged page = %v, %d", x, e)
	}
}

// P17.2: a page that is no node's, or one of a node that is none of the measures.
func TestLoadOfNoNode(t *testing.T) {
	w := example(t)
	loads := func(what string, kind byte, body []byte, want api.Errno) {
		t.Helper()
		block, e := w.p.Put(kind, body)
		if e != api.OK {
			t.Fatalf("%s: Put = %d", what, e)
		}
		if x, e := tree.Load(w.p, w.s, w.c, block); e != want || (x == nil) != (e != api.OK) {
			t.Errorf("Load of %s = %v, %d, want %d", what, x, e, want)
		}
		w.p.Drop(block)
	}
	body := func(n api.Node) []byte {
		b, e := node.Encode(w.s, n)
		if e != api.OK {
			t.Fatalf("Encode = %d", e)
		}
		return b
	}
	leaf := api.Node{Level: 1}
	for _, key := range []string{"a", "b", "c"} {
		loads("a leaf", 'L', body(leaf), api.OK)
		leaf.Entries = append(leaf.Entries, api.Entry{Key: key, Vals: []api.Value{{Kind: api.Int}}})
	}
	loads("a leaf of three entries", 'L', body(leaf), api.ErrNode)
	inner := api.Node{Level: 2, Kids: []int{7, 8}, Pivots: []string{"b"}}
	loads("an inner node", 'I', body(inner), api.OK)
	inner.Level = 255
	loads("an inner node of the highest level", 'I', body(inner), api.OK)
	for _, kind := range []byte{'L', 'C', 'M', 'S', 'W', 0, 'i'} {
		loads("an inner node of another kind", kind, body(inner), api.ErrNode)
	}
	for _, kind := range []byte{'I', 'C', 0, 'l'} {
		loads("a leaf of another kind", kind, []byte{1, 0}, api.ErrNode)
	}
	for _, text := range []string{"", "\x01", "\x00\x00", "\x01\x00\x00", "\x01\x01\x01a\x01\x80", "\x02\x00\x00\x00"} {
		loads("no node", 'L', []byte(text), api.ErrNode)
		loads("no node", 'I', []byte(text), api.ErrNode)
	}
	wide := api.Node{Level: 2, Kids: []int{1, 2, 3, 4, 5}, Pivots: []string{"b", "c", "d", "e"}}
	loads("a node of five kids", 'I', body(wide), api.ErrNode)
	for i := range 20 { // 6 bytes each: 114, and then 120
		inner.Msgs = append(inner.Msgs, api.Message{Kind: api.MDelete, Key: strings.Repeat("k", 2) + string(rune('a'+i))})
		if size := sizeOf(w.s, inner.Msgs...); size > 100 {
			want := api.OK
			if size > 115 {
				want = api.ErrNode
			}
			loads("a node in which much waits", 'I', body(inner), want)
		}
	}
	loads("a record of another schema", 'L', []byte("\x01\x01\x01a\x02\x00\x00"), api.ErrNode)
}

// P17.3: the root's page is read, once.
func TestHeight(t *testing.T) {
	numbers := drill.Numbers(172)
	for _, c := range drill.Measures() {
		w := grown(t, c, &numbers, 50)
		levels := map[int]int{}
		for _, at := range w.spots(w.p, w.x.Root()) {
			levels[at.Node.Level]++
		}
		reads, writes := w.costs(func() { w.wantHeight(len(levels)) })
		if reads != 1 || writes != 0 {
			t.Errorf("Height reads %d pages and writes %d", reads, writes)
		}
		hurt := w.damaged(func(at drill.Spot) bool { return at.Node.Level == len(levels) })
		hurt.wantHeight(len(levels))
		hurt.kill()
		if high, e := hurt.x.Height(); e != api.ErrPower || high != 0 {
			t.Errorf("Height without power = %d, %d", high, e)
		}
		hurt = w.damaged(func(at drill.Spot) bool { return false })
		if high, e := hurt.x.Height(); e != api.ErrDamaged || high != 0 {
			t.Errorf("Height of a damaged root = %d, %d", high, e)
		}
	}
}
