package tree_test

import (
	"testing"

	"arbor/api"
	"arbor/drill"
	"arbor/pager"
	"arbor/tree"
)

// The chapter's examples, one by one.

var (
	exampleSize     = api.Geometry{Sector: 64, Per: 4, Log: 16, Blocks: 400}
	exampleMeasures = api.Config{Fanout: 4, Leaf: 2, Buffer: 115}
)

func example(t *testing.T) *world {
	t.Helper()
	return plant(t, exampleSize, drill.SchemaOf("n:int"), exampleMeasures)
}

func (w *world) wantHeight(want int) {
	w.t.Helper()
	if high, e := w.x.Height(); e != api.OK || high != want {
		w.t.Errorf("Height = %d, %d, want %d", high, e, want)
	}
}

func (w *world) wantRow(key, want string) {
	w.t.Helper()
	if row, e := w.x.Get(key); e != api.OK || drill.ShownRow(w.s, row) != want {
		w.t.Errorf("Get(%q) = %s, %d, want %s", key, drill.ShownRow(w.s, row), e, want)
	}
}

func (w *world) wantScan(lo, hi string, limit int, want string) {
	w.t.Helper()
	if list, e := w.x.Scan(lo, hi, limit); e != api.OK || w.shown(list) != want {
		w.t.Errorf("Scan(%q, %q, %d) = %s, %d, want %s", lo, hi, limit, w.shown(list), e, want)
	}
}

func (w *world) messages(texts ...string) []api.Message {
	var ms []api.Message
	for _, text := range texts {
		ms = append(ms, drill.MessageOf(w.s, text))
	}
	return ms
}

// Example 1.
func TestExampleOfAnEmptyTree(t *testing.T) {
	w := example(t)
	w.wantHeight(1)
	w.wantRow("a", "none")
	w.wantScan("", "", 9, "")
	if row, e := w.x.Get(""); e != api.ErrKey || row.Here {
		t.Errorf("Get of no key = %v, %d", row, e)
	}
	if list, e := w.x.Scan("", "", -1); e != api.ErrArg || len(list) > 0 {
		t.Errorf("Scan with a limit below 0 = %v, %d", list, e)
	}
	if x, e := tree.New(w.p, w.s, api.Config{Fanout: 4, Leaf: 3, Buffer: 115}); e != api.ErrConfig || x != nil {
		t.Errorf("New with Leaf 3 = %v, %d", x, e)
	}
}

// abc: behind example 2.
func abc(t *testing.T) *world {
	w := example(t)
	w.apply(w.messages("put a {n=1}")...)
	w.apply(w.messages("put b {n=2}")...)
	w.wantHeight(1)
	w.apply(w.messages("put c {n=3}")...)
	w.wantHeight(2)
	return w
}

// acd: behind examples 3 and 4.
func acd(t *testing.T) *world {
	w := abc(t)
	reads, writes := w.costs(func() { w.apply(w.messages("upsert a push 5; addto 0")...) })
	if reads != 1 || writes != 1 {
		t.Errorf("a message that has room: %d pages read, %d written", reads, writes)
	}
	reads, writes = w.costs(func() { w.wantRow("a", "{n=6}") })
	if reads != 2 || writes != 0 {
		t.Errorf("Get: %d pages read, %d written", reads, writes)
	}
	w.apply(w.messages("delete b", "put d {n=4}", "upsert a push 1; addto 0")...)
	w.shape()
	return w
}

// Examples 2 to 4.
func TestExamplesOfApplyAndScan(t *testing.T) {
	w := acd(t)
	w.wantScan("", "", 9, `"a"{n=7} "c"{n=3} "d"{n=4} `)
	w.wantScan("b", "d", 9, `"c"{n=3} `)
	w.wantScan("", "", 2, `"a"{n=7} "c"{n=3} `)
	w.wantScan("d", "b", 9, "")
	w.wantScan("", "", 0, "")
}

// Examples 5 and 6.
func TestExamplesOfRefusedMessages(t *testing.T) {
	w := acd(t)
	root := w.x.Root()
	put := w.messages("put x {n=1}")[0]
	if e := w.x.Apply(put, deleteOf("")); e != api.ErrKey {
		t.Errorf("Apply with a message that may not be = %d", e)
	}
	w.wantRow("x", "none")
	if e := w.x.Apply(); e != api.OK || w.x.Root() != root {
		t.Errorf("Apply of nothing = %d, root %d, was %d", e, w.x.Root(), root)
	}
	w.p.Begin()
	if e := w.x.Apply(put); e != api.ErrOp || w.x.Root() != root {
		t.Errorf("Apply within somebody's operation = %d", e)
	}
	w.p.Cancel()
	w.wantRow("x", "none")
}

// Example 7.
func TestExamplesOfLoad(t *testing.T) {
	w := acd(t)
	w.x = w.load(w.p, w.x.Root())
	w.wantScan("", "", 9, `"a"{n=7} "c"{n=3} "d"{n=4} `)
	if x, e := tree.Load(w.p, w.s, w.c, 399); e != api.ErrBlock || x != nil {
		t.Errorf("Load of a block that is not in use = %v, %d", x, e)
	}
	block, _ := w.p.Put(api.KindCatalog, []byte{1, 0})
	if x, e := tree.Load(w.p, w.s, w.c, block); e != api.ErrNode || x != nil {
		t.Errorf("Load of another's page = %v, %d", x, e)
	}
}

// Example 8.
func TestExampleOfALossOfPower(t *testing.T) {
	w := acd(t)
	w.commit()
	w.apply(deleteOf("a"))
	w.wantRow("a", "none")
	keep := make([]bool, len(w.d.Pending()))
	for i := range keep {
		keep[i] = true
	}
	p, e := pager.Open(w.d.Survive(keep))
	if e != api.OK {
		t.Fatalf("Open = %d", e)
	}
	w.x = w.load(p, p.Super().Root)
	w.wantRow("a", "{n=7}")
}
