package store_test

import (
	"slices"
	"testing"

	"arbor/api"
	"arbor/disk"
	"arbor/drill"
	"arbor/pager"
	"arbor/store"
)

// The chapter's words once more, by other means than the program: the abstract map is a map in which upserts do what their programs mean.

// world: a disk and a store on it, and the abstract map behind each of its calls.
type world struct {
	t    *testing.T
	s    api.Schema
	c    api.Config
	g    api.Geometry
	d    *disk.Disk
	x    *store.Store
	past []map[string]api.Row // behind the first 0, 1, 2 .. accepted calls, by the keys that were named
}

func newDisk(t *testing.T, g api.Geometry) *disk.Disk {
	t.Helper()
	d, e := disk.New(pager.Sectors(g), g.Sector)
	if e != api.OK {
		t.Fatalf("a disk for %v: %d", g, e)
	}
	return d
}

func found(t *testing.T, g api.Geometry, c api.Config, s api.Schema) *world {
	t.Helper()
	w := &world{t: t, s: s, c: c, g: g, d: newDisk(t, g), past: []map[string]api.Row{{}}}
	x, e := store.Create(w.d, g, c, s)
	if x == nil || e != api.OK {
		t.Fatalf("Create(%v, %v) = %v, %d", g, c, x, e)
	}
	w.x = x
	return w
}

// opened: the store that a disk holds.
func opened(t *testing.T, d *disk.Disk) *store.Store {
	t.Helper()
	x, e := store.Open(d)
	if x == nil || e != api.OK {
		t.Fatalf("Open = %v, %d", x, e)
	}
	return x
}

// reopen: the same disk with the store opened anew: nothing is lost.
func (w *world) reopen() {
	w.t.Helper()
	w.x = opened(w.t, w.d)
}

func (w *world) rows() map[string]api.Row {
	return w.past[len(w.past)-1]
}

func (w *world) seq() uint64 {
	return uint64(len(w.past) - 1)
}

// behind: the abstract map if some changes are accepted.
func (w *world) behind(cs ...api.Change) map[string]api.Row {
	return drill.PlayChanges(w.s, w.rows(), cs...)
}

// call: a call with some changes; of one alone every other time by the call for its kind.
func (w *world) call(cs ...api.Change) api.Errno {
	if len(cs) != 1 || len(w.past)%2 == 0 {
		return w.x.Apply(cs...)
	}
	switch c := cs[0]; c.Kind {
	case api.MPut:
		return w.x.Put(c.Key, c.Vals...)
	case api.MDelete:
		return w.x.Delete(c.Key)
	default:
		return w.x.Upsert(c.Key, c.Src)
	}
}

// try: a call that may be refused, of changes that may be: what it answers.
func (w *world) try(cs ...api.Change) api.Errno {
	e := w.call(cs...)
	if e == api.OK {
		w.past = append(w.past, w.behind(cs...))
	}
	return e
}

// do: a call that is to be accepted.
func (w *world) do(cs ...api.Change) {
	w.t.Helper()
	if e := w.try(cs...); e != api.OK {
		w.t.Fatalf("%v, %v: the call number %d, of %s = %d", w.g, w.c, len(w.past), drill.ShownChanges(w.s, cs), e)
	}
}

// doAll: texts of changes, a call each.
func (w *world) doAll(texts ...string) {
	w.t.Helper()
	for _, text := range texts {
		w.do(drill.ChangeOf(w.s, text))
	}
}

func (w *world) sync() {
	w.t.Helper()
	if e := w.x.Sync(); e != api.OK {
		w.t.Fatalf("Sync = %d", e)
	}
}

func (w *world) checkpoint() {
	w.t.Helper()
	if e := w.x.Checkpoint(); e != api.OK {
		w.t.Fatalf("Checkpoint = %d", e)
	}
}

func (w *world) shown(list []api.Entry) string {
	return drill.ShownEntries(w.s, list)
}

// holds: does a store tell just the rows of a map?
func (w *world) holds(x *store.Store, rows map[string]api.Row) {
	w.t.Helper()
	want := drill.EntriesOf(rows, "", "")
	got, e := x.Scan("", "", len(want)+1)
	if e != api.OK || !drill.SameEntries(got, want) {
		w.t.Fatalf("%v, %v: Scan = %s, %d, want %s", w.g, w.c, w.shown(got), e, w.shown(want))
	}
	for key := range rows {
		if row, e := x.Get(key); e != api.OK || !drill.SameRow(row, rows[key]) {
			w.t.Fatalf("%v, %v: Get(%q) = %s, %d, want %s", w.g, w.c, key, drill.ShownRow(w.s, row), e, drill.ShownRow(w.s, rows[key]))
		}
	}
}

// isNow: does the store hold the map behind all its calls, and say how many they were?
func (w *world) isNow() {
	w.t.Helper()
	w.holds(w.x, w.rows())
	if w.x.Seq() != w.seq() {
		w.t.Fatalf("%v, %v: Seq = %d, want %d", w.g, w.c, w.x.Seq(), w.seq())
	}
}

// gone: what All gives, up to so many entries.
func gone(x *store.Store, lo, hi string, most int) []api.Entry {
	var list []api.Entry
	for key, vals := range x.All(lo, hi) {
		list = append(list, api.Entry{Key: key, Vals: vals})
		if len(list) == most {
			break
		}
	}
	return list
}

// everything: a choice of all that waits.
func everything(d *disk.Disk) []bool {
	return slices.Repeat([]bool{true}, len(d.Pending()))
}

// kill: the power goes.
func (w *world) kill() {
	w.t.Helper()
	w.d.Arm(0)
	if e := w.d.Write(0, make([]byte, w.g.Sector)); e != api.ErrPower {
		w.t.Fatalf("Write = %d", e)
	}
}

// some: up to so many changes, eight at most, of puts, deletes and upserts, now and then of one key.
func some(f drill.Fitting, keys, most int) []api.Change {
	var cs []api.Change
	for _, key := range drill.SomeKeys(f.Numbers, keys, min(most, api.MaxBatch)) {
		cs = append(cs, f.Change(key))
	}
	return cs
}

func putOf(f drill.Fitting, key string) api.Change {
	return api.Change{Kind: api.MPut, Key: key, Vals: f.Record()}
}

// geometryOf: with pages just large enough for the measures, and a log of so many sectors.
func geometryOf(c api.Config, log, blocks int) api.Geometry {
	g := drill.GeometryOf(c, blocks)
	g.Log = log
	return g
}

// grown: a world in which so many keys were put, and some of them changed.
func grown(t *testing.T, c api.Config, numbers *drill.Numbers, log, keys int) *world {
	t.Helper()
	s := drill.Pick(numbers, drill.Schemas())
	w := found(t, geometryOf(c, log, 8*keys+40), c, s)
	f := drill.Fitting{Schema: s, Numbers: numbers}
	for number := range keys {
		w.do(putOf(f, drill.Key(number*37%keys)))
		if number%3 == 0 {
			w.do(some(f, keys, 3)...)
		}
	}
	return w
}

// super: what the last commit says that a disk's durable bytes hold.
func super(t *testing.T, d *disk.Disk) api.Super {
	t.Helper()
	p, e := pager.Open(d.Survive(nil))
	if e != api.OK {
		t.Fatalf("pager.Open = %d", e)
	}
	return p.Super()
}
