package bulk_test

import (
	"maps"
	"testing"

	"arbor/api"
	"arbor/bulk"
	"arbor/drill"
	"arbor/pager"
)

// opened: the pager over what survived a loss of power.
func (w *site) opened(keep []bool) (*site, api.Super) {
	w.t.Helper()
	d := w.d.Survive(keep)
	p, e := pager.Open(d)
	if e != api.OK {
		w.t.Fatalf("Open = %d", e)
	}
	over := &site{t: w.t, s: w.s, c: w.c, d: d, p: p, others: map[int]string{}}
	return over, p.Super()
}

// survived: the tree of the commit ahead of the last one that was begun, or of that, whole, and no other pages.
func (w *site) survived(keep []bool, before, behind map[string]api.Row) {
	w.t.Helper()
	over, super := w.opened(keep)
	over.rows = before
	if super.Seq == w.p.Super().Seq+1 && behind != nil {
		over.rows = behind
	}
	over.rows = maps.Clone(over.rows)
	over.x = over.load(over.p, super.Root)
	over.holds(over.x)
	over.shape()
	over.apply(api.Message{Kind: api.MDelete, Key: "k"})
	over.shape()
}

// What follows: the power goes at every write of a Build and the commit of its root, and any of the waiting writes survive: the pages are those of the commit ahead of it, or the whole new tree.
func TestLossOfPower(t *testing.T) {
	numbers := drill.Numbers(441)
	for _, c := range drill.Measures()[:4] {
		for _, keys := range []int{0, c.Leaf + 1, 4*c.Leaf + 1} {
			for arm, dark := 0, true; dark; arm++ {
				w := planted(t, c, &numbers, 1+numbers.Below(9), 80)
				w.commit(w.x.Root())
				var behind map[string]api.Row
				dark, behind = w.movesOn(arm, entriesOf(w.fitting(&numbers), keys))
				for range 12 {
					w.survived(numbers.Keep(len(w.d.Pending())), w.rows, behind)
				}
			}
		}
	}
}

// What follows: each choice of the writes that survive, of a tree of one leaf.
func TestEveryChoiceOfWrites(t *testing.T) {
	numbers := drill.Numbers(442)
	for arm := range 4 {
		w := planted(t, drill.Measures()[0], &numbers, 2, 20)
		w.commit(w.x.Root())
		dark, behind := w.movesOn(arm, entriesOf(w.fitting(&numbers), 2))
		if dark != (arm < 3) {
			t.Fatalf("with a leaf, a map and a super sector to be written, %d writes go well: the power is gone: %v", arm, dark)
		}
		drill.Keeps(len(w.d.Pending()), func(keep []bool) { w.survived(keep, w.rows, behind) })
	}
}

// movesOn: a new tree is built in the place of the old one and committed, while so many writes go well. Did the power go? If it did so inside the commit: what the new tree holds.
func (w *site) movesOn(arm int, entries []api.Entry) (bool, map[string]api.Row) {
	w.t.Helper()
	old := w.shape()
	w.d.Arm(arm)
	root, e := bulk.Build(w.p, w.s, w.c, entries...)
	if e == api.ErrPower {
		return true, nil
	}
	for _, at := range old {
		w.p.Drop(at.Block)
	}
	if e == api.OK {
		e = w.p.Commit(root, -1, w.p.Super().Seq+1)
	}
	switch e {
	case api.OK:
		w.rows = rowsOf(entries)
	case api.ErrPower:
		return true, rowsOf(entries)
	default:
		w.t.Fatalf("%v: while the power goes: %d", w.c, e)
	}
	return false, nil
}

// P26.5: P17.13: behind the commit of a tree that was built a loss of power leaves what it held there, however it goes on.
func TestCommitKeepsTheTree(t *testing.T) {
	numbers := drill.Numbers(443)
	for _, c := range drill.Measures()[:6] {
		for range 3 {
			w := planted(t, c, &numbers, 5*c.Leaf+3, 400)
			w.commit(w.x.Root())
			held := maps.Clone(w.rows)
			w.d.Arm(40 * w.p.Geometry().Per)
			for e := api.OK; e == api.OK; {
				e = w.x.Apply(some(w.fitting(&numbers), 5*c.Leaf+20, 6)...)
				w.survived(numbers.Keep(len(w.d.Pending())), held, nil)
			}
		}
	}
}
