package pager_test

import (
	"maps"
	"slices"
	"strings"
	"testing"

	"arbor/api"
	"arbor/drill"
)

// The steps of a script: these, or else to drop the block of that number.
const (
	stepPut = 5000 + iota
	stepBegin
	stepKeep
	stepCancel
	stepCommit     // without names
	stepCommitAll  // with the lowest page as root, the highest as aux
	stepCommitFree // with a root that is no page
	stepReopen
	stepLong // a body that is too long
)

var shortSteps = []int{stepPut, 1, 2, stepBegin, stepKeep, stepCancel, stepCommit, stepCommitAll, stepReopen}

// play: one step of a script on the pager and in the book; seq makes what is put unlike anything before.
func (w *world) play(step, seq int) {
	w.t.Helper()
	switch step {
	case stepPut:
		room := w.book.g.Sector*w.book.g.Per - 15
		w.put(byte(seq), strings.Repeat(string(rune('a'+seq%26)), seq*7%(room+1)))
	case stepLong:
		w.put(byte(seq), strings.Repeat("x", w.book.g.Sector*w.book.g.Per-14+seq))
	case stepBegin:
		want(w.t, "Begin", w.p.Begin(), w.book.begin())
	case stepKeep:
		want(w.t, "Keep", w.p.Keep(), w.book.keep())
	case stepCancel:
		want(w.t, "Cancel", w.p.Cancel(), w.book.cancel())
	case stepCommit:
		w.commit(-1, -1, seq)
	case stepCommitAll:
		root, aux := -1, -1
		if pages := slices.Sorted(maps.Keys(w.book.now)); len(pages) > 0 {
			root, aux = pages[0], pages[len(pages)-1]
		}
		w.commit(root, aux, seq)
	case stepCommitFree:
		w.commit(w.book.last.mapBlock, -1, seq)
	case stepReopen:
		w.reopen()
	default:
		want(w.t, "Drop", w.p.Drop(step), w.book.drop(step))
	}
}

func (w *world) commit(root, aux, seq int) {
	w.t.Helper()
	want(w.t, "Commit", w.p.Commit(root, aux, uint64(seq)), w.book.commit(root, aux, uint64(seq)))
}

// P4.4 to P4.10, P4.12: every script of up to five steps.
func TestEveryShortScript(t *testing.T) {
	for length := range 6 {
		drill.Scripts(shortSteps, length, func(script []int) {
			w := newWorld(t, tiny)
			defer tellFailed(t, script)
			for n, step := range script {
				w.play(step, n+1)
			}
			w.same()
		})
	}
}

func tellFailed(t *testing.T, script []int) {
	if t.Failed() {
		t.Logf("behind the script %v", script)
	}
}

// P4.11: every script of up to three steps and a commit behind it; the power goes with each write in turn, or not at all, and every choice of the waiting writes survives.
func TestEveryLossOfPower(t *testing.T) {
	g := api.Geometry{Sector: 64, Per: 2, Log: 2, Blocks: 5}
	for length := range 4 {
		drill.Scripts(shortSteps, length, func(script []int) {
			defer tellFailed(t, script)
			for arm, more := 0, true; more; arm++ {
				w := newWorld(t, g)
				w.put(1, "held")
				w.commit(1, -1, 100)
				w.arm(arm)
				for n, step := range slices.Concat(script, []int{stepCommitAll}) {
					w.play(step, n+1)
				}
				w.same()
				drill.Keeps(len(w.book.waiting), func(keep []bool) { w.crash(keep) })
				more = w.book.dead
			}
		})
	}
}

func nextStep(numbers *drill.Numbers, blocks int) int {
	switch c := numbers.Below(40); {
	case c < 14:
		return stepPut
	case c < 24:
		return numbers.Below(blocks+2) - 1
	case c < 28:
		return stepBegin
	case c < 31:
		return stepKeep
	case c < 34:
		return stepCancel
	case c < 35:
		return stepCommit
	case c < 37:
		return stepCommitAll
	case c < 38:
		return stepCommitFree
	case c < 39:
		return stepLong
	}
	return stepReopen
}

// P4.4 to P4.12: long scripts with many losses of power, each of which the script goes on behind.
func TestLongScripts(t *testing.T) {
	numbers := drill.Numbers(7)
	for _, g := range []api.Geometry{
		tiny, wide,
		{Sector: 64, Per: 2, Log: 2, Blocks: 6},
		{Sector: 80, Per: 1, Log: 3, Blocks: 17},
		{Sector: 100, Per: 8, Log: 2, Blocks: 8},
		{Sector: 1024, Per: 1, Log: 2, Blocks: 40},
	} {
		w := newWorld(t, g)
		crashes := 0
		for seq := range 2500 {
			if numbers.Below(30) == 0 {
				w.arm(numbers.Below(4*g.Per) - 1)
			}
			w.play(nextStep(&numbers, g.Blocks), seq)
			if seq%5 == 0 || w.book.dead {
				w.same()
				w.crash(numbers.Keep(len(w.book.waiting)))
			}
			if w.book.dead && numbers.Below(3) == 0 {
				w = w.crash(numbers.Keep(len(w.book.waiting)))
				crashes++
			}
		}
		if crashes < 20 || w.book.last.super.Gen < 20 {
			t.Errorf("%v: only %d losses of power, generation %d", g, crashes, w.book.last.super.Gen)
		}
	}
}

// P4.11: also of a disk with power whose waiting writes survive or not, again and again.
func TestSurviveWithPower(t *testing.T) {
	w := newWorld(t, wide)
	for seq := range 6 {
		w.put(byte(seq), "page")
		drill.Keeps(min(len(w.book.waiting), 9), func(keep []bool) { w.crash(keep) })
		if seq%2 == 1 {
			w.commit(-1, -1, seq)
		}
	}
}
