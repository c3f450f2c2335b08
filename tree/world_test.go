package tree_test

import (
	"maps"
	"slices"
	"strconv"
	"strings"
	"testing"

	"arbor/api"
	"arbor/disk"
	"arbor/drill"
	"arbor/frame"
	"arbor/message"
	"arbor/node"
	"arbor/pager"
	"arbor/tree"
)

// The chapter's words once more, by other means than the program: the rows are kept in a map and played by the stand-in for the machine, and the tree's pages are gone through one by one.

// world: a disk, a pager over it and a tree in that; what the tree is to hold, and the pages of somebody else.
type world struct {
	t      *testing.T
	s      api.Schema
	c      api.Config
	d      *disk.Disk
	p      *pager.Pager
	x      *tree.Tree
	rows   map[string]api.Row // by the keys that were named
	others map[int]string
}

// measures: from the least to the greatest, with short and long buffers.
func measures() []api.Config {
	return []api.Config{
		{Fanout: 4, Leaf: 2, Buffer: 115},
		{Fanout: 5, Leaf: 3, Buffer: 115},
		{Fanout: 4, Leaf: 4, Buffer: 300},
		{Fanout: 7, Leaf: 5, Buffer: 150},
		{Fanout: 64, Leaf: 2, Buffer: 115},
		{Fanout: 16, Leaf: 9, Buffer: 900},
		{Fanout: 4, Leaf: 2, Buffer: 3000},
		{Fanout: 64, Leaf: 64, Buffer: 6000},
	}
}

// geometryOf: with pages that are just large enough for the measures.
func geometryOf(c api.Config, blocks int) api.Geometry {
	size := 15 + max(2+82*c.Leaf, 4+2*c.Fanout+17*(c.Fanout-1)+c.Buffer, (blocks+7)/8)
	per := (size + 1023) / 1024
	return api.Geometry{Sector: max(64, (size+per-1)/per), Per: per, Log: 2, Blocks: blocks}
}

func formatted(t *testing.T, g api.Geometry) (*disk.Disk, *pager.Pager) {
	t.Helper()
	d, e := disk.New(pager.Sectors(g), g.Sector)
	if e != api.OK {
		t.Fatalf("a disk for %v: %d", g, e)
	}
	p, e := pager.Format(d, g)
	if e != api.OK {
		t.Fatalf("Format(%v) = %d", g, e)
	}
	return d, p
}

func opened(t *testing.T, d *disk.Disk) *pager.Pager {
	t.Helper()
	p, e := pager.Open(d)
	if e != api.OK {
		t.Fatalf("Open = %d", e)
	}
	return p
}

func plant(t *testing.T, g api.Geometry, s api.Schema, c api.Config) *world {
	t.Helper()
	d, p := formatted(t, g)
	w := &world{t: t, s: s, c: c, d: d, p: p, rows: map[string]api.Row{}, others: map[int]string{}}
	w.x = w.newTree()
	return w
}

func (w *world) newTree() *tree.Tree {
	w.t.Helper()
	x, e := tree.New(w.p, w.s, w.c)
	if x == nil || e != api.OK {
		w.t.Fatalf("New(%v) = %v, %d", w.c, x, e)
	}
	return x
}

func (w *world) load(p *pager.Pager, root int) *tree.Tree {
	w.t.Helper()
	x, e := tree.Load(p, w.s, w.c, root)
	if x == nil || e != api.OK {
		w.t.Fatalf("Load(%v, %d) = %v, %d", w.c, root, x, e)
	}
	return x
}

// apply: a call that is to be accepted.
func (w *world) apply(ms ...api.Message) {
	w.t.Helper()
	if e := w.x.Apply(ms...); e != api.OK {
		w.t.Fatalf("%v: Apply(%s) = %d", w.c, drill.ShownMessages(w.s, ms), e)
	}
	w.note(ms...)
}

// note: what messages make of the rows.
func (w *world) note(ms ...api.Message) {
	for _, m := range ms {
		w.rows[m.Key] = drill.PlayMessages(w.s, w.rows[m.Key], m)
	}
}

func (w *world) commit() {
	w.t.Helper()
	if e := w.p.Commit(w.x.Root(), -1, 0); e != api.OK {
		w.t.Fatalf("Commit = %d", e)
	}
}

// within: the entries that are to be given for a range, in their order.
func (w *world) within(lo, hi string) []api.Entry {
	var list []api.Entry
	for _, key := range slices.Sorted(maps.Keys(w.rows)) {
		if w.rows[key].Here && key >= lo && (hi == "" || key < hi) {
			list = append(list, api.Entry{Key: key, Vals: w.rows[key].Vals})
		}
	}
	return list
}

func sameEntries(a, b []api.Entry) bool {
	return slices.EqualFunc(a, b, func(a, b api.Entry) bool { return a.Key == b.Key && slices.Equal(a.Vals, b.Vals) })
}

func (w *world) shown(list []api.Entry) string {
	text := ""
	for _, e := range list {
		text += strconv.Quote(e.Key) + drill.ShownRow(w.s, api.Row{Here: true, Vals: e.Vals}) + " "
	}
	return text
}

// holds: does a tree tell just the rows of the map?
func (w *world) holds(x *tree.Tree) {
	w.t.Helper()
	w.scans(x, "", "")
	for key := range w.rows {
		w.gets(x, key)
	}
}

func (w *world) scans(x *tree.Tree, lo, hi string) {
	w.t.Helper()
	want := w.within(lo, hi)
	got, e := x.Scan(lo, hi, len(want)+1)
	if e != api.OK || !sameEntries(got, want) {
		w.t.Fatalf("%v: Scan(%q, %q) = %s, %d, want %s", w.c, lo, hi, w.shown(got), e, w.shown(want))
	}
}

func (w *world) gets(x *tree.Tree, key string) {
	w.t.Helper()
	row, e := x.Get(key)
	if e != api.OK || !drill.SameRow(row, w.rows[key]) {
		w.t.Fatalf("%v: Get(%q) = %s, %d, want %s", w.c, key, drill.ShownRow(w.s, row), e, drill.ShownRow(w.s, w.rows[key]))
	}
}

// spot: a node in its page, and its range: from lo on and below hi, if open without an upper end.
type spot struct {
	block  int
	n      api.Node
	lo, hi string
	open   bool
}

func (p spot) inRange(key string) bool {
	return key >= p.lo && (p.open || key < p.hi)
}

// meets: is there a text in the node's range that is not below lo and at most last? (The least one that is not below lo and in the range is the greater of the two lower ends.)
func (p spot) meets(lo, last string) bool {
	return p.inRange(max(p.lo, lo)) && max(p.lo, lo) <= last
}

// meetsBelow: .. or below hi, if that is not empty?
func (p spot) meetsBelow(lo, hi string) bool {
	return p.inRange(max(p.lo, lo)) && (hi == "" || max(p.lo, lo) < hi)
}

// spots: all nodes of a tree, by their pages; none hangs in two places.
func (w *world) spots(p *pager.Pager, root int) []spot {
	w.t.Helper()
	list := []spot{{block: root, open: true}}
	met := map[int]int{}
	for i := 0; i < len(list); i++ {
		f, e := p.Get(list[i].block)
		if e != api.OK {
			w.t.Fatalf("%v: the page %d: %d", w.c, list[i].block, e)
		}
		n, e := node.Decode(w.s, f.Body)
		if e != api.OK || (f.Kind != 'L' || n.Level != 1) && (f.Kind != 'I' || n.Level < 2) {
			w.t.Fatalf("%v: the page %d of kind %c is no node's", w.c, list[i].block, f.Kind)
		}
		list[i].n = n
		if met[list[i].block]++; met[list[i].block] > 1 {
			w.t.Fatalf("%v: the page %d hangs in two places", w.c, list[i].block)
		}
		list = append(list, list[i].kids()...)
	}
	return list
}

// kids: where they are and what their ranges are.
func (p spot) kids() []spot {
	var list []spot
	for i, block := range p.n.Kids {
		kid := spot{block: block, lo: p.lo, hi: p.hi, open: p.open}
		if i > 0 {
			kid.lo = p.n.Pivots[i-1]
		}
		if i < len(p.n.Pivots) {
			kid.hi, kid.open = p.n.Pivots[i], false
		}
		list = append(list, kid)
	}
	return list
}

// shape: P17.9, and of the pager's pages just the tree's and those of others are in use (P17.7).
func (w *world) shape() []spot {
	w.t.Helper()
	list := w.spots(w.p, w.x.Root())
	entries := 0
	for i, at := range list {
		if e := node.Check(w.s, w.c, at.n); e != api.OK {
			w.t.Fatalf("%v: the node in page %d of level %d: %d", w.c, at.block, at.n.Level, e)
		}
		w.inRanges(at)
		half := w.c.Fanout / 2
		if at.n.Level == 1 {
			half = w.c.Leaf / 2
		}
		if i > 0 && len(at.n.Entries)+len(at.n.Kids) < half {
			w.t.Fatalf("%v: the node in page %d of level %d has %d entries, %d kids", w.c, at.block, at.n.Level, len(at.n.Entries), len(at.n.Kids))
		}
		entries += len(at.n.Entries)
	}
	w.enough(list[0].n.Level, entries, len(list))
	w.inUse(list)
	return list
}

func (w *world) inRanges(at spot) {
	w.t.Helper()
	for _, e := range at.n.Entries {
		if !at.inRange(e.Key) {
			w.t.Fatalf("%v: the entry %q stands in the range from %q to %q", w.c, e.Key, at.lo, at.hi)
		}
	}
	for _, m := range at.n.Msgs {
		if !at.inRange(m.Key) {
			w.t.Fatalf("%v: the message %q stands in the range from %q to %q", w.c, m.Key, at.lo, at.hi)
		}
	}
	for _, pivot := range at.n.Pivots {
		if !at.inRange(pivot) {
			w.t.Fatalf("%v: the pivot %q stands in the range from %q to %q", w.c, pivot, at.lo, at.hi)
		}
	}
}

// enough: what follows of the shape.
func (w *world) enough(high, entries, nodes int) {
	w.t.Helper()
	least := 2 * (w.c.Leaf / 2)
	for range high - 2 {
		least *= w.c.Fanout / 2
	}
	if high > 1 && (entries < least || nodes > 2*(entries/(w.c.Leaf/2))-1) {
		w.t.Fatalf("%v: of height %d, with %d entries, %d nodes", w.c, high, entries, nodes)
	}
}

func (w *world) inUse(list []spot) {
	w.t.Helper()
	want := slices.Collect(maps.Keys(w.others))
	for _, at := range list {
		want = append(want, at.block)
	}
	slices.Sort(want)
	if got := usedPages(w.p); !slices.Equal(got, want) {
		w.t.Fatalf("%v: the pages %v are in use, want %v", w.c, got, want)
	}
	for block, body := range w.others {
		if f, e := w.p.Get(block); e != api.OK || string(f.Body) != body {
			w.t.Fatalf("%v: somebody's page %d became %q, %d", w.c, block, f.Body, e)
		}
	}
}

func usedPages(p *pager.Pager) []int {
	var list []int
	for block := range p.Geometry().Blocks {
		if _, e := p.Get(block); e != api.ErrBlock {
			list = append(list, block)
		}
	}
	return list
}

// costs: how many pages something reads and writes.
func (w *world) costs(what func()) (reads, writes int) {
	was := w.d.Stats()
	what()
	is, per := w.d.Stats(), w.p.Geometry().Per
	return (is.Reads - was.Reads) / per, (is.Writes - was.Writes) / per
}

// damaged: the same world over bytes in which each page of the tree that is not to be spared is broken.
func (w *world) damaged(spare func(spot) bool) *world {
	w.t.Helper()
	w.commit()
	image, g := w.d.Image(), w.p.Geometry()
	for _, at := range w.spots(w.p, w.x.Root()) {
		if !spare(at) {
			image[(2+g.Log+at.block*g.Per)*g.Sector+5] ^= 0x40
		}
	}
	return w.over(image)
}

// over: the same world over other bytes. Its pager was opened and its tree was loaded while they were whole.
func (w *world) over(image []byte) *world {
	w.t.Helper()
	g := w.p.Geometry()
	d, e := disk.FromImage(w.d.Image(), g.Sector)
	if e != api.OK {
		w.t.Fatalf("FromImage = %d", e)
	}
	p := opened(w.t, d)
	x := w.load(p, w.x.Root())
	for at := 0; at < len(image); at += g.Sector {
		if e := d.Write(at/g.Sector, image[at:at+g.Sector]); e != api.OK {
			w.t.Fatalf("Write = %d", e)
		}
	}
	return &world{t: w.t, s: w.s, c: w.c, d: d, p: p, x: x, rows: w.rows}
}

// kill: the power goes.
func (w *world) kill() {
	w.t.Helper()
	w.d.Arm(0)
	if e := w.d.Write(0, make([]byte, w.p.Geometry().Sector)); e != api.ErrPower {
		w.t.Fatalf("Write = %d", e)
	}
}

// withPage: the durable bytes, with another page in a block.
func (w *world) withPage(block int, f api.Frame) []byte {
	w.t.Helper()
	g := w.p.Geometry()
	b, e := frame.Seal(f, g.Sector*g.Per)
	if e != api.OK {
		w.t.Fatalf("Seal = %d", e)
	}
	image := w.d.Image()
	copy(image[(2+g.Log+block*g.Per)*g.Sector:], b)
	return image
}

// someKey: of so many, short and long ones, in no plain order.
func someKey(numbers *drill.Numbers, many int) string {
	return keyOf(numbers.Below(many))
}

func keyOf(number int) string {
	text := strconv.Itoa(number * 7919 % 10007)
	switch number % 5 {
	case 0:
		return "k" + text
	case 1:
		return strings.Repeat("k", 12-len(text)%5) + text[:min(len(text), 3)] + string(rune('0'+number/1000))
	case 2:
		return string([]byte{byte(number), byte(number / 256)})
	}
	return text
}

// some: up to so many messages, of puts, deletes and upserts, now and then of one key.
func some(f drill.Fitting, keys, most int) []api.Message {
	var ms []api.Message
	for range 1 + f.Numbers.Below(most) {
		key := someKey(f.Numbers, keys)
		if len(ms) > 0 && f.Numbers.Below(3) == 0 {
			key = drill.Pick(f.Numbers, ms).Key
		}
		ms = append(ms, f.Message(key))
	}
	return ms
}

func putOf(f drill.Fitting, key string) api.Message {
	return api.Message{Kind: api.MPut, Key: key, Vals: f.Record()}
}

func deleteOf(key string) api.Message {
	return api.Message{Kind: api.MDelete, Key: key}
}

func sizeOf(s api.Schema, ms ...api.Message) int {
	size := 0
	for _, m := range ms {
		size += message.Size(s, m)
	}
	return size
}

// grown: a world whose tree has so many keys, some of them in messages that wait still.
func grown(t *testing.T, c api.Config, numbers *drill.Numbers, keys int) *world {
	t.Helper()
	s := drill.Pick(numbers, drill.Schemas())
	w := plant(t, geometryOf(c, 1900), s, c)
	f := drill.Fitting{Schema: s, Numbers: numbers}
	for number := range keys {
		w.apply(putOf(f, keyOf(number*37%keys)))
		if number%3 == 0 {
			w.apply(f.Message(someKey(numbers, keys)))
		}
	}
	return w
}
