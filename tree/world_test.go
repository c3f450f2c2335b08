package tree_test

import (
	"maps"
	"slices"
	"testing"

	"arbor/api"
	"arbor/disk"
	"arbor/drill"
	"arbor/frame"
	"arbor/message"
	"arbor/pager"
	"arbor/tree"
)

// The chapter's words once more, by other means than the program: the rows are kept in a map and played by the stand-in for the machine, and the tree's pages are gone through one by one.

// world: a disk, a pager over it and a tree in that; what the tree is to hold, and the pages of somebody else.
type world struct {
	t      *testing.T
	s      api.Schema
	c      api.Config
	d      *disk.Disk
	p      *pager.Pager
	x      *tree.Tree
	rows   map[string]api.Row // by the keys that were named
	others map[int]string
}

func formatted(t *testing.T, g api.Geometry) (*disk.Disk, *pager.Pager) {
	t.Helper()
	d, e := disk.New(pager.Sectors(g), g.Sector)
	if e != api.OK {
		t.Fatalf("a disk for %v: %d", g, e)
	}
	p, e := pager.Format(d, g)
	if e != api.OK {
		t.Fatalf("Format(%v) = %d", g, e)
	}
	return d, p
}

func opened(t *testing.T, d *disk.Disk) *pager.Pager {
	t.Helper()
	p, e := pager.Open(d)
	if e != api.OK {
		t.Fatalf("Open = %d", e)
	}
	return p
}

func plant(t *testing.T, g api.Geometry, s api.Schema, c api.Config) *world {
	t.Helper()
	d, p := formatted(t, g)
	w := &world{t: t, s: s, c: c, d: d, p: p, rows: map[string]api.Row{}, others: map[int]string{}}
	w.x = w.newTree()
	return w
}

func (w *world) newTree() *tree.Tree {
	w.t.Helper()
	x, e := tree.New(w.p, w.s, w.c)
	if x == nil || e != api.OK {
		w.t.Fatalf("New(%v) = %v, %d", w.c, x, e)
	}
	return x
}

func (w *world) load(p *pager.Pager, root int) *tree.Tree {
	w.t.Helper()
	x, e := tree.Load(p, w.s, w.c, root)
	if x == nil || e != api.OK {
		w.t.Fatalf("Load(%v, %d) = %v, %d", w.c, root, x, e)
	}
	return x
}

// apply: a call that is to be accepted.
func (w *world) apply(ms ...api.Message) {
	w.t.Helper()
	if e := w.x.Apply(ms...); e != api.OK {
		w.t.Fatalf("%v: Apply(%s) = %d", w.c, drill.ShownMessages(w.s, ms), e)
	}
	w.note(ms...)
}

// note: what messages make of the rows.
func (w *world) note(ms ...api.Message) {
	for _, m := range ms {
		w.rows[m.Key] = drill.PlayMessages(w.s, w.rows[m.Key], m)
	}
}

func (w *world) commit() {
	w.t.Helper()
	if e := w.p.Commit(w.x.Root(), -1, 0); e != api.OK {
		w.t.Fatalf("Commit = %d", e)
	}
}

// within: the entries that are to be given for a range, in their order.
func (w *world) within(lo, hi string) []api.Entry {
	return drill.EntriesOf(w.rows, lo, hi)
}

func (w *world) shown(list []api.Entry) string {
	return drill.ShownEntries(w.s, list)
}

// holds: does a tree tell just the rows of the map?
func (w *world) holds(x *tree.Tree) {
	w.t.Helper()
	w.scans(x, "", "")
	for key := range w.rows {
		w.gets(x, key)
	}
}

func (w *world) scans(x *tree.Tree, lo, hi string) {
	w.t.Helper()
	want := w.within(lo, hi)
	got, e := x.Scan(lo, hi, len(want)+1)
	if e != api.OK || !drill.SameEntries(got, want) {
		w.t.Fatalf("%v: Scan(%q, %q) = %s, %d, want %s", w.c, lo, hi, w.shown(got), e, w.shown(want))
	}
}

func (w *world) gets(x *tree.Tree, key string) {
	w.t.Helper()
	row, e := x.Get(key)
	if e != api.OK || !drill.SameRow(row, w.rows[key]) {
		w.t.Fatalf("%v: Get(%q) = %s, %d, want %s", w.c, key, drill.ShownRow(w.s, row), e, drill.ShownRow(w.s, w.rows[key]))
	}
}

// spots: all nodes of a tree, by their pages; none hangs in two places.
func (w *world) spots(p *pager.Pager, root int) []drill.Spot {
	w.t.Helper()
	list, wrong := drill.Spots(p, w.s, root)
	if wrong != "" {
		w.t.Fatalf("%v: %s", w.c, wrong)
	}
	return list
}

// shape: P17.9, and of the pager's pages just the tree's and those of others are in use (P17.7).
func (w *world) shape() []drill.Spot {
	w.t.Helper()
	list := w.spots(w.p, w.x.Root())
	if wrong := drill.Misshapen(w.s, w.c, list); wrong != "" {
		w.t.Fatalf("%v: %s", w.c, wrong)
	}
	w.inUse(list)
	return list
}

func (w *world) inUse(list []drill.Spot) {
	w.t.Helper()
	want := slices.Collect(maps.Keys(w.others))
	for _, at := range list {
		want = append(want, at.Block)
	}
	slices.Sort(want)
	if got := drill.Pages(w.p); !slices.Equal(got, want) {
		w.t.Fatalf("%v: the pages %v are in use, want %v", w.c, got, want)
	}
	for block, body := range w.others {
		if f, e := w.p.Get(block); e != api.OK || string(f.Body) != body {
			w.t.Fatalf("%v: somebody's page %d became %q, %d", w.c, block, f.Body, e)
		}
	}
}

// costs: how many pages something reads and writes.
func (w *world) costs(what func()) (reads, writes int) {
	was := w.d.Stats()
	what()
	is, per := w.d.Stats(), w.p.Geometry().Per
	return (is.Reads - was.Reads) / per, (is.Writes - was.Writes) / per
}

// damaged: the same world over bytes in which each page of the tree that is not to be spared is broken.
func (w *world) damaged(spare func(drill.Spot) bool) *world {
	w.t.Helper()
	w.commit()
	image, g := w.d.Image(), w.p.Geometry()
	for _, at := range w.spots(w.p, w.x.Root()) {
		if !spare(at) {
			image[(2+g.Log+at.Block*g.Per)*g.Sector+5] ^= 0x40
		}
	}
	return w.over(image)
}

// over: the same world over other bytes. Its pager was opened and its tree was loaded while they were whole.
func (w *world) over(image []byte) *world {
	w.t.Helper()
	g := w.p.Geometry()
	d, e := disk.FromImage(w.d.Image(), g.Sector)
	if e != api.OK {
		w.t.Fatalf("FromImage = %d", e)
	}
	p := opened(w.t, d)
	x := w.load(p, w.x.Root())
	for at := 0; at < len(image); at += g.Sector {
		if e := d.Write(at/g.Sector, image[at:at+g.Sector]); e != api.OK {
			w.t.Fatalf("Write = %d", e)
		}
	}
	return &world{t: w.t, s: w.s, c: w.c, d: d, p: p, x: x, rows: w.rows}
}

// kill: the power goes.
func (w *world) kill() {
	w.t.Helper()
	w.d.Arm(0)
	if e := w.d.Write(0, make([]byte, w.p.Geometry().Sector)); e != api.ErrPower {
		w.t.Fatalf("Write = %d", e)
	}
}

// withPage: the durable bytes, with another page in a block.
func (w *world) withPage(block int, f api.Frame) []byte {
	w.t.Helper()
	g := w.p.Geometry()
	b, e := frame.Seal(f, g.Sector*g.Per)
	if e != api.OK {
		w.t.Fatalf("Seal = %d", e)
	}
	image := w.d.Image()
	copy(image[(2+g.Log+block*g.Per)*g.Sector:], b)
	return image
}

// some: up to so many messages, of puts, deletes and upserts, now and then of one key.
func some(f drill.Fitting, keys, most int) []api.Message {
	var ms []api.Message
	for _, key := range drill.SomeKeys(f.Numbers, keys, most) {
		ms = append(ms, f.Message(key))
	}
	return ms
}

func putOf(f drill.Fitting, key string) api.Message {
	return api.Message{Kind: api.MPut, Key: key, Vals: f.Record()}
}

func deleteOf(key string) api.Message {
	return api.Message{Kind: api.MDelete, Key: key}
}

func sizeOf(s api.Schema, ms ...api.Message) int {
	size := 0
	for _, m := range ms {
		size += message.Size(s, m)
	}
	return size
}

// grown: a world whose tree has so many keys, some of them in messages that wait still.
func grown(t *testing.T, c api.Config, numbers *drill.Numbers, keys int) *world {
	t.Helper()
	s := drill.Pick(numbers, drill.Schemas())
	w := plant(t, drill.GeometryOf(c, 1900), s, c)
	f := drill.Fitting{Schema: s, Numbers: numbers}
	for number := range keys {
		w.apply(putOf(f, drill.Key(number*37%keys)))
		if number%3 == 0 {
			w.apply(f.Message(drill.SomeKey(numbers, keys)))
		}
	}
	return w
}
