package bulk_test

import (
	"maps"
	"slices"
	"testing"

	"arbor/api"
	"arbor/bulk"
	"arbor/disk"
	"arbor/drill"
	"arbor/pager"
	"arbor/tree"
)

// site: a pager on a disk of its own, in which a tree is built; what that tree is to hold, and the pages of somebody else.
type site struct {
	t      *testing.T
	s      api.Schema
	c      api.Config
	d      *disk.Disk
	p      *pager.Pager
	x      *tree.Tree
	rows   map[string]api.Row // by the keys that were named
	others map[int]string
}

func newSite(t *testing.T, g api.Geometry, s api.Schema, c api.Config) *site {
	t.Helper()
	d := drill.NewDisk(g)
	p, e := pager.Format(d, g)
	if e != api.OK {
		t.Fatalf("Format(%v) = %d", g, e)
	}
	return &site{t: t, s: s, c: c, d: d, p: p, rows: map[string]api.Row{}, others: map[int]string{}}
}

// mixed: a site whose blocks are in use here and there, and kept there and here, with so many of them left.
func mixed(t *testing.T, s api.Schema, c api.Config, numbers *drill.Numbers, left int) *site {
	t.Helper()
	w := newSite(t, drill.GeometryOf(c, left+60), s, c)
	for phase := range 3 {
		for range 10 {
			w.putOther(numbers)
		}
		for _, block := range slices.Sorted(maps.Keys(w.others)) {
			if numbers.Below(2) == 0 {
				w.dropOther(block)
			}
		}
		if phase == numbers.Below(3) {
			w.commit(-1)
		}
	}
	for w.p.Left() > left {
		w.putOther(numbers)
	}
	if w.p.Left() != left {
		t.Fatalf("%d blocks are left, %d are to be", w.p.Left(), left)
	}
	return w
}

func (w *site) putOther(numbers *drill.Numbers) {
	w.t.Helper()
	body := "somebody's page"[:numbers.Below(16)]
	block, e := w.p.Put(byte(numbers.Below(256)), []byte(body))
	if e != api.OK {
		w.t.Fatalf("Put = %d", e)
	}
	w.others[block] = body
}

func (w *site) dropOther(block int) {
	w.t.Helper()
	if e := w.p.Drop(block); e != api.OK {
		w.t.Fatalf("Drop = %d", e)
	}
	delete(w.others, block)
}

func (w *site) commit(root int) {
	w.t.Helper()
	if e := w.p.Commit(root, -1, w.p.Super().Seq+1); e != api.OK {
		w.t.Fatalf("Commit = %d", e)
	}
}

// open: the blocks that pages would be put into, one behind the other.
func (w *site) open() []int {
	w.t.Helper()
	var blocks []int
	w.p.Begin()
	for w.p.Left() > 0 {
		block, e := w.p.Put('x', []byte("what was here before"))
		if e != api.OK {
			w.t.Fatalf("Put = %d", e)
		}
		blocks = append(blocks, block)
	}
	w.p.Cancel()
	return blocks
}

// builds: a call that is to be accepted. It writes the book's pages and nothing else, in their order, reads nothing, and its operation is over.
func (w *site) builds(entries []api.Entry) {
	w.t.Helper()
	pages := bookTree(w.c, entries, w.open())
	used, left, waiting, was := drill.Pages(w.p), w.p.Left(), len(w.d.Pending()), w.d.Stats()
	root, e := bulk.Build(w.p, w.s, w.c, entries...)
	is := w.d.Stats()
	if e != api.OK || root != pages[len(pages)-1].block {
		w.t.Fatalf("%v: Build of %d entries = %d, %d, want %d", w.c, len(entries), root, e, pages[len(pages)-1].block)
	}
	writes := bookWrites(w.s, w.p.Geometry(), w.p.Super().Gen, pages)
	if !drill.SameWrites(w.d.Pending()[waiting:], writes) {
		w.t.Fatalf("%v: Build of %d entries writes other pages than the book's", w.c, len(entries))
	}
	if want := (api.DiskStats{Reads: was.Reads, Writes: was.Writes + len(writes), Flushes: was.Flushes}); is != want {
		w.t.Fatalf("%v: Build of %d entries: the disk was asked %v, want %v", w.c, len(entries), is, want)
	}
	for _, at := range pages {
		used = append(used, at.block)
	}
	slices.Sort(used)
	if w.p.Left() != left-len(pages) || !slices.Equal(drill.Pages(w.p), used) {
		w.t.Fatalf("%v: Build of %d entries: %d blocks left, %d were", w.c, len(entries), w.p.Left(), left)
	}
	if n := bulk.Pages(w.c, len(entries)); n != len(pages) {
		w.t.Fatalf("Pages(%v, %d) = %d, and Build puts %d", w.c, len(entries), n, len(pages))
	}
	w.free()
	w.x = w.load(w.p, root)
	w.rows = rowsOf(entries)
}

// free: no operation is open.
func (w *site) free() {
	w.t.Helper()
	if e := w.p.Begin(); e != api.OK {
		w.t.Fatalf("an operation is open still: %d", e)
	}
	w.p.Cancel()
}

// refused: a call that is to be answered with an error: the pages are as they were.
func (w *site) refused(want api.Errno, c api.Config, entries ...api.Entry) {
	w.t.Helper()
	used, left := drill.Pages(w.p), w.p.Left()
	if root, e := bulk.Build(w.p, w.s, c, entries...); root != 0 || e != want {
		w.t.Fatalf("%v: Build of %d entries = %d, %d, want %d", c, len(entries), root, e, want)
	}
	if w.p.Left() != left || !slices.Equal(drill.Pages(w.p), used) {
		w.t.Fatalf("%v: Build of %d entries, which was refused with %d: %d blocks left, %d were", c, len(entries), want, w.p.Left(), left)
	}
	w.free()
}

func (w *site) load(p *pager.Pager, root int) *tree.Tree {
	w.t.Helper()
	x, e := tree.Load(p, w.s, w.c, root)
	if x == nil || e != api.OK {
		w.t.Fatalf("Load(%v, %d) = %v, %d", w.c, root, x, e)
	}
	return x
}

// apply: a call that is to be accepted.
func (w *site) apply(ms ...api.Message) {
	w.t.Helper()
	if e := w.x.Apply(ms...); e != api.OK {
		w.t.Fatalf("%v: Apply(%s) = %d", w.c, drill.ShownMessages(w.s, ms), e)
	}
	w.note(ms...)
}

// note: what messages make of the rows.
func (w *site) note(ms ...api.Message) {
	for _, m := range ms {
		w.rows[m.Key] = drill.PlayMessages(w.s, w.rows[m.Key], m)
	}
}

// holds: does a tree tell just the rows, and no others? (Of many keys some are asked for one by one.)
func (w *site) holds(x *tree.Tree) {
	w.t.Helper()
	want := drill.EntriesOf(w.rows, "", "")
	got, e := x.Scan("", "", len(want)+1)
	if e != api.OK || !drill.SameEntries(got, want) {
		w.t.Fatalf("%v: Scan = %s, %d, want %s", w.c, drill.ShownEntries(w.s, got), e, drill.ShownEntries(w.s, want))
	}
	keys := slices.Sorted(maps.Keys(w.rows))
	for i := 0; i < len(keys); i += 1 + len(keys)/60 {
		key := keys[i]
		for _, key := range []string{key, key[:1], (key + "\x00")[:min(len(key)+1, 16)]} {
			w.gets(x, key)
		}
	}
	for _, key := range drill.Keys() {
		w.gets(x, key)
	}
}

func (w *site) gets(x *tree.Tree, key string) {
	w.t.Helper()
	row, e := x.Get(key)
	if e != api.OK || !drill.SameRow(row, w.rows[key]) {
		w.t.Fatalf("%v: Get(%q) = %s, %d, want %s", w.c, key, drill.ShownRow(w.s, row), e, drill.ShownRow(w.s, w.rows[key]))
	}
}

// shape: P17.9, and of the pager's pages just the tree's and those of others are in use.
func (w *site) shape() []drill.Spot {
	w.t.Helper()
	list, wrong := drill.Spots(w.p, w.s, w.x.Root())
	if wrong == "" {
		wrong = drill.Misshapen(w.s, w.c, list)
	}
	if wrong != "" {
		w.t.Fatalf("%v: %s", w.c, wrong)
	}
	want := slices.Collect(maps.Keys(w.others))
	for _, at := range list {
		want = append(want, at.Block)
	}
	slices.Sort(want)
	if got := drill.Pages(w.p); !slices.Equal(got, want) {
		w.t.Fatalf("%v: the pages %v are in use, want %v", w.c, got, want)
	}
	for block, body := range w.others {
		if f, e := w.p.Get(block); e != api.OK || string(f.Body) != body {
			w.t.Fatalf("%v: somebody's page %d became %q, %d", w.c, block, f.Body, e)
		}
	}
	return list
}

// costs: how many pages something reads and writes.
func (w *site) costs(what func()) (reads, writes int) {
	was := w.d.Stats()
	what()
	is, per := w.d.Stats(), w.p.Geometry().Per
	return (is.Reads - was.Reads) / per, (is.Writes - was.Writes) / per
}

func rowsOf(entries []api.Entry) map[string]api.Row {
	rows := map[string]api.Row{}
	for _, entry := range entries {
		rows[entry.Key] = api.Row{Here: true, Vals: entry.Vals}
	}
	return rows
}

// entriesOf: so many, in rising order.
func entriesOf(f drill.Fitting, many int) []api.Entry {
	rows := map[string]api.Row{}
	for number := range many {
		rows[drill.Key(number)] = api.Row{Here: true, Vals: f.Record()}
	}
	return drill.EntriesOf(rows, "", "")
}

// some: up to so many messages, of puts, deletes and upserts, now and then of one key.
func some(f drill.Fitting, keys, most int) []api.Message {
	var ms []api.Message
	for _, key := range drill.SomeKeys(f.Numbers, keys, most) {
		ms = append(ms, f.Message(key))
	}
	return ms
}

// putsOf: a message for each of some entries.
func putsOf(entries []api.Entry) []api.Message {
	var ms []api.Message
	for _, entry := range entries {
		ms = append(ms, api.Message{Kind: api.MPut, Key: entry.Key, Vals: entry.Vals})
	}
	return ms
}

// counts: of entries, at which a tree has a leaf, a node or a level more, up to so many pages.
func counts(c api.Config, pages int) []int {
	list := []int{0, 1}
	for _, full := range []int{c.Leaf, 2 * c.Leaf, 3 * c.Leaf, c.Leaf * c.Fanout, 2 * c.Leaf * c.Fanout, c.Leaf * c.Fanout * c.Fanout, c.Leaf * c.Fanout * c.Fanout * c.Fanout} {
		for _, many := range []int{full - 1, full, full + 1, full + full/2} {
			if many < 10000 && bookPages(c, many) <= pages {
				list = append(list, many)
			}
		}
	}
	slices.Sort(list)
	return slices.Compact(list)
}
