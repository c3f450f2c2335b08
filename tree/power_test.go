package tree_test

import (
	"maps"
	"testing"

	"arbor/api"
	"arbor/drill"
)

// survived: the world over what survived a loss of power: what the last commit's tree held, or, if the power went inside a commit, perhaps that one's.
func (w *world) survived(keep []bool, last, next map[string]api.Row) *world {
	w.t.Helper()
	d := w.d.Survive(keep)
	p := opened(w.t, d)
	over := &world{t: w.t, s: w.s, c: w.c, d: d, p: p, rows: last, others: map[int]string{}}
	over.x = over.load(p, p.Super().Root)
	if next != nil && p.Super().Seq == w.p.Super().Seq+1 {
		over.rows = next
	}
	over.rows = maps.Clone(over.rows)
	over.holds(over.x)
	over.shape()
	return over
}

// P17.13: the power goes at every write of some calls and commits, and any of the waiting writes survive.
func TestEveryLossOfPower(t *testing.T) {
	numbers := drill.Numbers(194)
	for _, c := range drill.Measures()[:4] {
		for arm, more := 0, true; more; arm++ {
			w := plant(t, drill.GeometryOf(c, 120), drill.Schemas()[arm%2], c)
			f := drill.Fitting{Schema: w.s, Numbers: &numbers}
			for range 6 {
				w.apply(some(f, 15, 4)...)
			}
			w.commit()
			w.d.Arm(arm)
			more = w.tillDark(f)
		}
	}
}

// tillDark: calls and commits until the power goes. Did it?
func (w *world) tillDark(f drill.Fitting) bool {
	w.t.Helper()
	last := maps.Clone(w.rows)
	for call := range 6 {
		ms := some(f, 15, 4)
		e := w.x.Apply(ms...)
		if e == api.OK {
			w.note(ms...)
		}
		var next map[string]api.Row
		if e == api.OK && call%2 == 1 {
			next = maps.Clone(w.rows)
			e = w.p.Commit(w.x.Root(), -1, w.p.Super().Seq+1)
			if e == api.OK {
				last, next = next, nil
			}
		}
		if e != api.OK && e != api.ErrPower {
			w.t.Fatalf("%v: without power: %d", w.c, e)
		}
		for range 8 {
			w.survived(f.Numbers.Keep(len(w.d.Pending())), last, next)
		}
		if e == api.ErrPower {
			return true
		}
	}
	return false
}

// P17.13: again and again: each loss of power leaves a tree that goes on.
func TestManyLossesOfPower(t *testing.T) {
	numbers := drill.Numbers(195)
	for _, c := range drill.Measures() {
		w := plant(t, drill.GeometryOf(c, 400), drill.Pick(&numbers, drill.Schemas()), c)
		w.commit()
		f := drill.Fitting{Schema: w.s, Numbers: &numbers}
		for range 30 {
			last := maps.Clone(w.rows)
			w.d.Arm(numbers.Below(60 * w.p.Geometry().Per))
			var next map[string]api.Row
			e := api.OK
			for e == api.OK {
				ms := some(f, 60, 8)
				if e = w.x.Apply(ms...); e == api.OK {
					w.note(ms...)
				}
				if e == api.OK && numbers.Below(4) == 0 {
					next = maps.Clone(w.rows)
					if e = w.p.Commit(w.x.Root(), -1, w.p.Super().Seq+1); e == api.OK {
						last, next = next, nil
					}
				}
			}
			if e != api.ErrPower {
				t.Fatalf("%v: without power: %d", c, e)
			}
			w = w.survived(numbers.Keep(len(w.d.Pending())), last, next)
		}
	}
}
