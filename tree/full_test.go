package tree_test

import (
	"testing"

	"arbor/api"
	"arbor/drill"
)

// P17.11: a pager of 8k + 15 + o blocks is never too small for k keys and o pages of somebody else, whatever was committed when.
func TestNeverFull(t *testing.T) {
	numbers := drill.Numbers(191)
	for _, c := range drill.Measures()[:7] {
		for _, keys := range []int{1, 2, 3, 5, 13, 40} {
			for _, others := range []int{0, 9} {
				for commits := range 3 {
					neverFull(t, c, &numbers, keys, others, commits)
				}
			}
		}
	}
}

// neverFull: commits are none, some or one behind every call.
func neverFull(t *testing.T, c api.Config, numbers *drill.Numbers, keys, others, commits int) {
	t.Helper()
	w := plant(t, drill.GeometryOf(c, 8*keys+15+others), drill.Pick(numbers, drill.Schemas()), c)
	f := drill.Fitting{Schema: w.s, Numbers: numbers}
	for i := range 40 {
		ms := some(f, keys, 1+numbers.Below(3*keys))
		if i/10%2 == 0 && numbers.Below(2) == 0 {
			for j, m := range ms {
				ms[j] = putOf(f, m.Key)
			}
		}
		if i%20 == 19 {
			for number := range keys {
				ms = append(ms, deleteOf(drill.Key(number)))
			}
		}
		w.apply(ms...)
		if others > 0 && numbers.Below(4) == 0 {
			w.otherPages(numbers) // puts one at most
			others--
		}
		if commits > 0 && numbers.Below(3-commits) == 0 {
			w.commit()
		}
	}
	w.shape()
	w.holds(w.x)
}

// P17.11: so it is for the greatest trees: all the keys in one call, changed in one call, and gone in one call.
func TestNeverFullInGreatCalls(t *testing.T) {
	numbers := drill.Numbers(192)
	for _, c := range drill.Measures()[:5] {
		for _, keys := range []int{7, 60, 180} {
			w := plant(t, drill.GeometryOf(c, 8*keys+15), drill.Pick(&numbers, drill.Schemas()), c)
			f := drill.Fitting{Schema: w.s, Numbers: &numbers}
			for round := range 4 {
				var puts, deletes []api.Message
				for number := range keys {
					puts, deletes = append(puts, putOf(f, drill.Key(number))), append(deletes, deleteOf(drill.Key(number*3%keys)))
				}
				for _, ms := range [][]api.Message{puts, puts, deletes[:keys/2], puts, deletes, puts[keys/2:], deletes} {
					w.apply(ms...)
					w.shape()
					if round%2 == 0 {
						w.commit()
					}
				}
				w.holds(w.x)
				w.commit()
			}
		}
	}
}

// P17.11, R6: two trees share a pager's blocks and nothing else; each is somebody else to the other.
func TestTwoTrees(t *testing.T) {
	numbers := drill.Numbers(193)
	for _, c := range drill.Measures()[:4] {
		a := plant(t, drill.GeometryOf(c, 1900), drill.Schemas()[0], c)
		b := &world{t: t, s: drill.Schemas()[1], c: c, d: a.d, p: a.p, rows: map[string]api.Row{}}
		b.x = b.newTree()
		f, g := drill.Fitting{Schema: a.s, Numbers: &numbers}, drill.Fitting{Schema: b.s, Numbers: &numbers}
		for i := range 120 {
			a.apply(some(f, 60, 3)...)
			b.apply(some(g, 60, 2)...)
			if i%30 == 0 {
				a.commit()
			}
		}
		a.holds(a.x)
		b.holds(b.x)
		a.others, b.others = pagesOf(b), pagesOf(a)
		a.shape()
		b.shape()
	}
}

func pagesOf(w *world) map[int]string {
	pages := map[int]string{}
	for _, at := range w.spots(w.p, w.x.Root()) {
		f, _ := w.p.Get(at.Block)
		pages[at.Block] = string(f.Body)
	}
	return pages
}
