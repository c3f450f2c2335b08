package store_test

import (
	"testing"

	"arbor/api"
	"arbor/drill"
	"arbor/store"
)

// fullWorld: over so many blocks, behind a call that was answered with ErrFull.
func fullWorld(t *testing.T, blocks int) *world {
	t.Helper()
	g := exampleSize
	g.Blocks = blocks
	w := found(t, g, exampleMeasures, drill.SchemaOf(exampleText))
	for number := range 400 {
		switch e := w.try(drill.ChangeOf(w.s, "put "+drill.Key(1000+5*number)+" {n=1}")); e {
		case api.OK:
		case api.ErrFull:
			return w
		default:
			t.Fatalf("Put = %d", e)
		}
	}
	t.Fatalf("%d blocks are never full", blocks)
	return nil
}

// P18.4, P18.7, W3: behind an ErrFull the store is read only: it answers as before, and takes changes again when it has been opened anew.
func TestReadOnly(t *testing.T) {
	for blocks := 4; blocks < 30; blocks++ {
		w := fullWorld(t, blocks)
		if w.x.Mode() != api.ModeReadOnly {
			t.Fatalf("%d blocks: Mode = %d", blocks, w.x.Mode())
		}
		if last := super(t, w.d); last.Seq != w.seq() {
			t.Errorf("%d blocks: %d calls are committed, %d were accepted", blocks, last.Seq, w.seq())
		}
		was := w.d.Stats()
		w.want("Put", w.x.Put("a"), api.ErrReadOnly)
		w.want("Put without a key", w.x.Put("", api.Value{Kind: 9}), api.ErrReadOnly)
		w.want("Delete", w.x.Delete("a"), api.ErrReadOnly)
		w.want("Upsert", w.x.Upsert("", "n +"), api.ErrReadOnly)
		w.want("Apply of nothing", w.x.Apply(), api.ErrReadOnly)
		w.want("Apply of too much", w.x.Apply(make([]api.Change, 99)...), api.ErrReadOnly)
		if w.d.Stats() != was {
			t.Errorf("%d blocks: a refused call touches the disk", blocks)
		}
		w.isNow()
		w.sync()
		w.checkpoint()
		if w.x.Mode() != api.ModeReadOnly {
			t.Errorf("%d blocks: Mode = %d behind a checkpoint", blocks, w.x.Mode())
		}
		w.want("Put", w.x.Put("a"), api.ErrReadOnly)
		w.reopen()
		if w.x.Mode() != api.ModeOpen {
			t.Errorf("%d blocks: Mode = %d when opened anew", blocks, w.x.Mode())
		}
		w.isNow()
	}
}

// P18.7: a store that was full goes on, once it is opened anew, with what has room: what is taken away comes back as blocks.
func TestGoesOnWhenOpenedAnew(t *testing.T) {
	for blocks := 12; blocks < 30; blocks += 3 {
		w := fullWorld(t, blocks)
		for len(drill.EntriesOf(w.rows(), "", "")) > 0 {
			w.reopen()
			key := drill.EntriesOf(w.rows(), "", "")[0].Key
			e := w.try(api.Change{Kind: api.MDelete, Key: key})
			if e == api.ErrFull {
				break // a delete, too, asks for blocks
			}
			w.want("Delete", e, api.OK)
		}
		w.isNow()
		w.reopen()
		w.isNow()
	}
	w := fullWorld(t, 7) // one leaf and what it takes to write it anew
	w.reopen()
	w.do(api.Change{Kind: api.MDelete, Key: drill.EntriesOf(w.rows(), "", "")[0].Key})
	w.doAll("put z {n=2}")
	w.isNow()
}

// P18.7, W3: with 8k + 16 blocks no call meets ErrFull, whatever was refused or committed meanwhile, and no commit is made for want of blocks.
func TestNeverFull(t *testing.T) {
	numbers := drill.Numbers(321)
	for _, c := range drill.Measures()[:7] {
		for _, keys := range []int{1, 2, 3, 5, 13, 40} {
			for commits := range 3 {
				neverFull(t, c, &numbers, keys, commits)
			}
		}
	}
}

// neverFull: checkpoints are none, some or one behind every call.
func neverFull(t *testing.T, c api.Config, numbers *drill.Numbers, keys, commits int) {
	t.Helper()
	w := found(t, geometryOf(c, 64, 8*keys+16), c, drill.Pick(numbers, drill.Schemas()))
	f := drill.Fitting{Schema: w.s, Numbers: numbers}
	stream := 0
	for i := range 60 {
		cs := some(f, keys, 8)
		for j := range cs {
			if i/15%2 == 0 && numbers.Below(2) == 0 {
				cs[j] = putOf(f, cs[j].Key)
			} else if i/15 == 3 {
				cs[j] = api.Change{Kind: api.MDelete, Key: cs[j].Key}
			}
		}
		was := w.d.Stats().Flushes
		w.do(cs...)
		stream += 2 + 9 + len(cs)*api.MaxMessage // at most
		if stream <= 64*(w.g.Sector-17) && w.d.Stats().Flushes > was {
			t.Fatalf("%v, %d keys: a commit is made though the log has room", c, keys)
		}
		if w.d.Stats().Flushes > was || commits > 0 && numbers.Below(3-commits) == 0 {
			w.checkpoint()
			stream = 0
		}
		if numbers.Below(10) == 0 {
			w.reopen()
			stream = 0
		}
	}
	w.isNow()
}

// P18.7: the commit that a full tree asks for gives back blocks: over few of them calls are accepted that had no room ahead of it.
func TestACommitMakesRoom(t *testing.T) {
	made := 0
	for blocks := 5; blocks < 14; blocks++ {
		g := exampleSize
		g.Blocks, g.Log = blocks, 64
		w := found(t, g, exampleMeasures, drill.SchemaOf(exampleText))
		for range 40 {
			was, gen := w.d.Stats().Flushes, super(t, w.d).Gen
			e := w.try(drill.ChangeOf(w.s, "upsert a new; n += 1"))
			last := super(t, w.d)
			if e != api.OK || last.Gen > gen+1 || (last.Gen > gen) != (w.d.Stats().Flushes == was+2) {
				t.Fatalf("%d blocks: %d, the generations %d and %d", blocks, e, gen, last.Gen)
			}
			if last.Gen > gen {
				made++
				if last.Seq != w.seq()-1 {
					t.Fatalf("%d blocks: the commit behind %d calls holds %d", blocks, w.seq()-1, last.Seq)
				}
			}
			w.isNow()
		}
		w.holds(opened(t, w.d.Survive(everything(w.d))), w.rows())
	}
	if made < 20 {
		t.Errorf("%d commits were made for want of blocks", made)
	}
}

// P18.7: a call that is refused with ErrFull leaves nothing of itself, also of those of its changes that would have had room.
func TestFullCallsLeaveNothing(t *testing.T) {
	numbers := drill.Numbers(322)
	full := 0
	for _, c := range drill.Measures() {
		for _, blocks := range []int{5, 8, 13, 21} {
			w := found(t, geometryOf(c, 7, blocks), c, drill.Pick(&numbers, drill.Schemas()))
			f := drill.Fitting{Schema: w.s, Numbers: &numbers}
			for range 60 {
				e := w.try(some(f, 40*c.Leaf, 8)...)
				if e == api.ErrFull {
					full++
					if w.x.Mode() != api.ModeReadOnly {
						t.Fatalf("Mode = %d behind ErrFull", w.x.Mode())
					}
					w.isNow()
					w.reopen()
					w.isNow()
				} else if e != api.OK {
					t.Fatalf("%v: %d", w.g, e)
				}
			}
			w.isNow()
		}
	}
	if full < 50 {
		t.Errorf("%d calls were refused with ErrFull", full)
	}
}

// P18.7: two stores know nothing of one another: the one is full, the other goes on.
func TestTwoStores(t *testing.T) {
	a, b := fullWorld(t, 9), behindFour(t)
	b.doAll("put k {n=1}")
	if a.x.Mode() != api.ModeReadOnly || b.x.Mode() != api.ModeOpen {
		t.Errorf("Mode = %d, %d", a.x.Mode(), b.x.Mode())
	}
	a.isNow()
	b.isNow()
	var none *store.Store
	if none.Mode() != 0 {
		t.Errorf("Mode of nil = %d", none.Mode())
	}
}
