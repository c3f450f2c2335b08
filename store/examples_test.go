package store_test

import (
	"strconv"
	"testing"

	"arbor/api"
	"arbor/disk"
	"arbor/drill"
	"arbor/frame"
	"arbor/pager"
	"arbor/store"
)

// The chapter's examples, one by one, and those of DOC.md that are about losses of power.

var (
	exampleSize     = api.Geometry{Sector: 64, Per: 4, Log: 16, Blocks: 128}
	exampleMeasures = api.Config{Fanout: 4, Leaf: 2, Buffer: 115}
)

const exampleText = "n:int,tag:bytes?"

func example(t *testing.T) *world {
	t.Helper()
	return found(t, exampleSize, exampleMeasures, drill.SchemaOf(exampleText))
}

func intOf(n int64) api.Value {
	return api.Value{Kind: api.Int, N: n}
}

func (w *world) want(what string, got, want api.Errno) {
	w.t.Helper()
	if got != want {
		w.t.Errorf("%s = %d, want %d", what, got, want)
	}
}

func (w *world) wantScan(want string) {
	w.t.Helper()
	if list, e := w.x.Scan("", "", 9); e != api.OK || w.shown(list) != want {
		w.t.Errorf("Scan = %s, %d, want %s", w.shown(list), e, want)
	}
}

func (w *world) wantRow(key, want string) {
	w.t.Helper()
	if row, e := w.x.Get(key); e != api.OK || drill.ShownRow(w.s, row) != want {
		w.t.Errorf("Get(%q) = %s, %d, want %s", key, drill.ShownRow(w.s, row), e, want)
	}
}

// Example 1.
func TestExamplesOfCreate(t *testing.T) {
	s := drill.SchemaOf(exampleText)
	for _, x := range []struct {
		sectors int
		c       api.Config
		s       api.Schema
		want    api.Errno
	}{
		{530, exampleMeasures, s, api.OK}, {529, exampleMeasures, s, api.ErrGeometry},
		{530, api.Config{Fanout: 4, Leaf: 3, Buffer: 115}, s, api.ErrConfig},
		{530, exampleMeasures, api.Schema{}, api.ErrSchema}, {529, exampleMeasures, api.Schema{}, api.ErrSchema},
	} {
		d, _ := disk.New(x.sectors, 64)
		made, e := store.Create(d, exampleSize, x.c, x.s)
		if e != x.want || (made == nil) != (e != api.OK) {
			t.Errorf("Create over %d sectors, %v = %v, %d, want %d", x.sectors, x.c, made, e, x.want)
		}
		if e == api.OK && (made.Mode() != 1 || made.Seq() != 0) {
			t.Errorf("Mode = %d, Seq = %d", made.Mode(), made.Seq())
		}
	}
}

// Example 2.
func TestExampleOfTheCatalog(t *testing.T) {
	w := example(t)
	p, e := pager.Open(w.d)
	if e != api.OK || p.Super().Gen != 2 {
		t.Fatalf("pager.Open = %d", e)
	}
	if f, e := p.Get(p.Super().Aux); e != api.OK || f.Kind != 'C' || string(f.Body) != "\x04\x02\x73\x00n:int,tag:bytes?" {
		t.Errorf("the catalog: %v, %d", f, e)
	}
	if f, e := frame.Open(w.d.Image()[:64]); e != api.OK || f.Kind != 'S' || f.Gen != 2 {
		t.Errorf("sector 0: %v, %d", f, e)
	}
}

// Example 3.
func TestExampleOfPut(t *testing.T) {
	w := example(t)
	w.want("Put", w.x.Put("a", intOf(5)), api.OK)
	w.wantRow("a", "{n=5}")
	if w.x.Seq() != 1 {
		t.Errorf("Seq = %d", w.x.Seq())
	}
	b, _ := w.d.Read(2)
	if f, e := frame.Open(b); e != api.OK || f.Kind != 'W' || f.Gen != 2 || string(f.Body) != "\x00\x00\x0f\x00\x01\x00\x00\x00\x00\x00\x00\x00\x01\x01\x01a\x02\x00\x0a" {
		t.Errorf("sector 2: %v, %d", f, e)
	}
}

// behindFour: behind examples 3 and 4.
func behindFour(t *testing.T) *world {
	w := example(t)
	w.doAll("put a {n=5}", `upsert a n += 7; tag = "x"`, "upsert b n += 1")
	w.wantRow("b", "none")
	w.doAll("upsert b new")
	w.wantScan(`"a"{n=12,tag="x"} "b"{n=0} `)
	return w
}

// Examples 4 and 5.
func TestExamplesOfRefusals(t *testing.T) {
	w := behindFour(t)
	w.want("Put without a key", w.x.Put("", intOf(1)), api.ErrKey)
	w.want("Put of a bool", w.x.Put("a", api.Value{Kind: api.Bool, N: 1}), api.ErrValue)
	w.want("Upsert", w.x.Upsert("a", "n = tag"), api.ErrType)
	w.want("Upsert without a key", w.x.Upsert("", "n = tag"), api.ErrKey)
	w.want("Apply of nothing", w.x.Apply(), api.ErrBatch)
	w.want("Apply of nine", w.x.Apply(make([]api.Change, 9)...), api.ErrBatch)
	w.want("Apply of kind 4", w.x.Apply(api.Change{Kind: 4, Key: "a"}), api.ErrMessage)
	w.want("Apply of a delete with a source", w.x.Apply(api.Change{Kind: api.MDelete, Key: "a", Src: "new"}), api.ErrMessage)
	w.want("Apply of half a record", w.x.Apply(api.Change{Kind: api.MPut, Key: "a", Vals: []api.Value{intOf(1)}}), api.ErrValue)
	w.isNow()
	w.want("Put of no values", w.x.Put("a"), api.OK)
	w.wantRow("a", "{n=0}")
}

// Example 6.
func TestExamplesOfApply(t *testing.T) {
	w := behindFour(t)
	w.want("Apply", w.x.Apply(drill.ChangeOf(w.s, "put c {n=1}"), drill.ChangeOf(w.s, "upsert a n +")), api.ErrSyntax)
	w.wantRow("c", "none")
	w.isNow()
	w.do(drill.ChangeOf(w.s, "delete a"), drill.ChangeOf(w.s, "upsert a new; n += 2"), drill.ChangeOf(w.s, "put d {n=1}"))
	w.isNow()
	w.wantRow("a", "{n=2}")
	w.wantRow("d", "{n=1}")
}

// Example 7.
func TestExamplesOfSyncAndCheckpoint(t *testing.T) {
	w := behindFour(t)
	was := w.d.Stats()
	w.sync()
	was.Flushes++
	if is := w.d.Stats(); is != was {
		t.Errorf("Sync: %v, want %v", is, was)
	}
	w.checkpoint()
	was.Writes, was.Flushes = was.Writes+5, was.Flushes+2
	if is := w.d.Stats(); is != was {
		t.Errorf("Checkpoint: %v, want %v", is, was)
	}
}

// Example 8.
func TestExampleOfALossOfPower(t *testing.T) {
	w := behindFour(t)
	w.sync()
	w.doAll("put e {n=5}")
	for _, x := range []struct {
		keep []bool
		row  string
		seq  uint64
	}{{nil, "none", 4}, {everything(w.d), "{n=5}", 5}} {
		over := &world{t: t, s: w.s, x: opened(t, w.d.Survive(x.keep))}
		over.wantRow("e", x.row)
		if over.x.Seq() != x.seq {
			t.Errorf("Seq = %d, want %d", over.x.Seq(), x.seq)
		}
	}
}

// Example 9.
func TestExampleOfDeletingAll(t *testing.T) {
	w := behindFour(t)
	w.doAll("put c {n=1}", "put d {n=2}")
	keys := ""
	for key := range w.x.All("", "") {
		keys += key
		w.want("Delete", w.x.Delete(key), api.OK)
	}
	w.wantScan("")
	if keys != "abcd" {
		t.Errorf("All gives %q", keys)
	}
}

// Example 10.
func TestExamplesOfAFullStore(t *testing.T) {
	for _, blocks := range []int{4, 5} {
		g := exampleSize
		g.Blocks = blocks
		w := found(t, g, exampleMeasures, drill.SchemaOf(exampleText))
		e := api.OK
		for number := 0; e == api.OK; number++ {
			e = w.try(drill.ChangeOf(w.s, "put "+strconv.Itoa(number)+" {n=1}"))
		}
		if e != api.ErrFull || w.x.Mode() != 2 || (len(w.past) > 1) != (blocks > 4) {
			t.Errorf("over %d blocks: %d accepted, then %d, Mode = %d", blocks, len(w.past)-1, e, w.x.Mode())
		}
		w.want("Put", w.x.Put("a"), api.ErrReadOnly)
		w.isNow()
		w.sync()
		w.checkpoint()
		w.reopen()
		w.isNow()
		if w.x.Mode() != 1 {
			t.Errorf("over %d blocks: Mode = %d when opened anew", blocks, w.x.Mode())
		}
	}
}

// DOC.md, examples 6 to 8.
func TestExamplesOfTheWhole(t *testing.T) {
	g := exampleSize
	g.Log = 20
	w := found(t, g, exampleMeasures, drill.SchemaOf(exampleText))
	w.doAll("upsert a new; n += 5", `upsert a n += 7; tag = "x"`, "upsert b n += 1", `upsert a if has tag and len(tag ?? "") < 3 { tag = cat(tag ?? "", "y") } else { clear tag }`, "upsert a n = 9223372036854775807 + n")
	w.wantRow("a", `{n=-9223372036854775797,tag="xy"}`)
	w.doAll("put c {n=3}")
	w.do(drill.ChangeOf(w.s, "delete a"), drill.ChangeOf(w.s, "put d {n=4}"))
	w.sync()
	w.doAll("put e {n=5}")
	w.d = w.d.Survive(nil)
	w.past = w.past[:8]
	w.reopen()
	w.isNow()
	w.wantRow("e", "none")
	w.wantRow("d", "{n=4}")
	w.sync()
	w.d.Arm(0)
	w.want("Put", w.x.Put("f", intOf(6)), api.ErrPower)
	_, e := w.x.Get("d")
	w.want("Get", e, api.ErrPower)
	w.d = w.d.Survive([]bool{true})
	w.reopen()
	w.isNow()
}
