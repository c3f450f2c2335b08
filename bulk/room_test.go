package bulk_test

import (
	"slices"
	"testing"

	"arbor/api"
	"arbor/bulk"
	"arbor/drill"
)

// P26.3, P26.4: ErrFull just where fewer blocks are left than there are pages; behind it the pages are as they were, and what has room is built.
func TestRoom(t *testing.T) {
	numbers := drill.Numbers(421)
	for _, c := range drill.Measures()[:6] {
		for _, many := range []int{0, 1, c.Leaf + 1, 3*c.Leaf + 1, c.Leaf*c.Fanout + 1} {
			pages := bookPages(c, many)
			for left := max(0, pages-5); left < pages+3; left++ {
				w := mixed(t, drill.Pick(&numbers, drill.Schemas()), c, &numbers, left)
				f := drill.Fitting{Schema: w.s, Numbers: &numbers}
				if left < pages {
					w.refused(api.ErrFull, c, entriesOf(f, many)...)
					w.x = nil
				} else {
					w.builds(entriesOf(f, many))
					w.shape()
				}
				w.fillsUp(&numbers)
			}
		}
	}
}

// fillsUp: so many pages as are left may be put, and are there.
func (w *site) fillsUp(numbers *drill.Numbers) {
	w.t.Helper()
	for range w.p.Left() {
		w.putOther(numbers)
	}
	if _, e := w.p.Put('x', nil); e != api.ErrFull {
		w.t.Fatalf("Put behind the last one = %d", e)
	}
	if w.x != nil {
		w.shape()
		w.holds(w.x)
	}
	for block, body := range w.others {
		if f, e := w.p.Get(block); e != api.OK || string(f.Body) != body {
			w.t.Fatalf("%v: somebody's page %d became %q, %d", w.c, block, f.Body, e)
		}
	}
}

// P26.3, P26.4: every number of blocks left, every number of entries, in the least measures.
func TestEveryRoom(t *testing.T) {
	s := drill.SchemaOf("n:int")
	for blocks := 4; blocks < 20; blocks++ {
		for many := range 20 {
			w := newSite(t, drill.GeometryOf(exampleMeasures, blocks), s, exampleMeasures)
			entries := named("abcdefghijklmnopqrst"[:many])
			if bookPages(w.c, many) > blocks-2 {
				w.refused(api.ErrFull, w.c, entries...)
			} else {
				w.builds(entries)
			}
		}
	}
}

// P26.2, P26.4: the power goes at every write: ErrPower, unless the blocks were at an end ahead of it; the pages in use and Left are as they were.
func TestPowerGoesAtEveryWrite(t *testing.T) {
	numbers := drill.Numbers(422)
	for _, c := range drill.Measures()[:6] {
		for _, many := range []int{0, c.Leaf + 1, 5*c.Leaf + 1} {
			pages := bookPages(c, many)
			for _, left := range []int{0, 1, pages - 1, pages, pages + 1} {
				for arm := range pages*drill.GeometryOf(c, left+60).Per + 2 {
					w := mixed(t, drill.Pick(&numbers, drill.Schemas()), c, &numbers, left)
					w.darkens(arm, pages, entriesOf(drill.Fitting{Schema: w.s, Numbers: &numbers}, many))
				}
			}
		}
	}
}

// darkens: a call in which the power goes behind so many writes, if it makes so many.
func (w *site) darkens(arm, pages int, entries []api.Entry) {
	w.t.Helper()
	per, left, used := w.p.Geometry().Per, w.p.Left(), drill.Pages(w.p)
	w.d.Arm(arm)
	want := api.OK
	switch {
	case arm < min(pages, left)*per:
		want = api.ErrPower
	case left < pages:
		want = api.ErrFull
	}
	root, e := bulk.Build(w.p, w.s, w.c, entries...)
	if e != want || e != api.OK && root != 0 || w.d.Dead() != (want == api.ErrPower) {
		w.t.Fatalf("%v: %d pages, %d left, %d writes go well: Build = %d, %d, want %d", w.c, pages, left, arm, root, e, want)
	}
	if e == api.OK {
		left -= pages
	}
	if w.p.Left() != left {
		w.t.Fatalf("%v: %d blocks are left, want %d", w.c, w.p.Left(), left)
	}
	if e != api.OK && !slices.Equal(drill.Pages(w.p), used) {
		w.t.Fatalf("%v: the pages %v are in use, want %v", w.c, drill.Pages(w.p), used)
	}
	w.free()
	if e == api.ErrPower {
		w.refused(api.ErrPower, w.c, entries...)
	}
}

// P26.2: without power: ErrPower, but ErrFull where no block is left.
func TestBuildWithoutPower(t *testing.T) {
	numbers := drill.Numbers(423)
	for _, c := range drill.Measures() {
		for left := range 4 {
			w := mixed(t, drill.Pick(&numbers, drill.Schemas()), c, &numbers, left)
			drill.Kill(w.d)
			want := api.ErrPower
			if left == 0 {
				want = api.ErrFull
			}
			for _, many := range []int{0, 1, c.Leaf + 1, 9*c.Leaf + 1} {
				w.refused(want, c, entriesOf(drill.Fitting{Schema: w.s, Numbers: &numbers}, many)...)
			}
		}
	}
}
