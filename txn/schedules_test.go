package txn_test

import (
	"math"
	"strings"
	"testing"

	"arbor/api"
	"arbor/drill"
	"arbor/txn"
)

// W7, P21.9: every schedule is serial.

// serial: the committed transactions once more, each alone, one behind the other, on a new store: those with changes in the order of their commits, each one without changes behind those that were committed ahead of its Begin.
func (k *desk) serial() {
	k.t.Helper()
	alone := newDesk(k.t, k.s, k.g, k.c)
	for commits := range len(k.writers) + 1 {
		for _, who := range k.readers {
			if who.book.Begun == commits {
				who.again(k.t, alone.m)
			}
		}
		if commits < len(k.writers) {
			k.writers[commits].again(k.t, alone.m)
		}
	}
	want := drill.EntriesOf(k.book.Now(), "", "")
	if got, e := alone.st.Scan("", "", math.MaxInt); e != api.OK || !drill.SameEntries(got, want) {
		k.t.Fatalf("%v: one behind the other they make %s, %d, want %s", k.c, drill.ShownEntries(k.s, got), e, drill.ShownEntries(k.s, want))
	}
	if alone.m.Commits() != len(k.writers) || alone.st.Seq() != uint64(len(k.writers)) {
		k.t.Fatalf("%v: one behind the other they are %d commits, Seq %d", k.c, alone.m.Commits(), alone.st.Seq())
	}
}

// again: a transaction alone gets the very answers that it got among others.
func (who *client) again(t *testing.T, m *txn.Manager) {
	t.Helper()
	x, e := m.Begin()
	if e != api.OK {
		t.Fatalf("Begin = %d", e)
	}
	for i, c := range who.asks {
		if got := c.do(x); got != who.said[i] {
			t.Fatalf("alone: %s = %s; among others: %s", c.what, got, who.asked())
		}
	}
	if e := x.Commit(); e != api.OK {
		t.Fatalf("alone: Commit = %d; asked: %s", e, who.asked())
	}
}

// interleaved: every way of merging two lists of steps is handed on, as which of the two goes each time; the same memory each time.
func interleaved(a, b int, each func([]bool)) {
	drill.Scripts([]bool{false, true}, a+b, func(second []bool) {
		count := 0
		for _, is := range second {
			if is {
				count++
			}
		}
		if count == b {
			each(second)
		}
	})
}

// play: a transaction's steps: its begin, its calls, its commit.
type play struct {
	calls []call
	who   *client
	next  int
}

func (p *play) step(k *desk) {
	k.t.Helper()
	switch p.next {
	case 0:
		p.who = k.begin()
	case len(p.calls) + 1:
		k.commit(p.who)
	default:
		k.ask(p.who, p.calls[p.next-1])
	}
	p.next++
}

// P21.4 to P21.9: every two transactions of two calls out of a few, in every interleaving.
func TestEveryShortSchedule(t *testing.T) {
	c := drill.Measures()[0]
	s := drill.SchemaOf("n:int")
	calls := []call{getOf(s, "a"), getOf(s, "b"), scanOf(s, "", "", 1), scanOf(s, "a", "", 9)}
	for _, text := range []string{"put a {n=5}", "upsert a new; n += 1", "delete a"} {
		calls = append(calls, changeOf(s, drill.ChangeOf(s, text)))
	}
	var plays [][]call
	drill.Scripts(calls, 2, func(p []call) { plays = append(plays, []call{p[0], p[1]}) })
	committed := map[int]int{}
	k := newDesk(t, s, drill.GeometryOf(c, 128), c)
	for i, first := range plays {
		for _, second := range plays[i:] {
			number := 0
			interleaved(4, 4, func(turns []bool) {
				number++
				k.startAnew("put a {n=1}", "upsert b new; n += 1")
				both := [2]*play{{calls: first}, {calls: second}}
				for _, turn := range turns {
					if turn {
						both[1].step(k)
					} else {
						both[0].step(k)
					}
				}
				if number%10 == 0 {
					k.isNow()
				}
				committed[len(k.writers)+len(k.readers)]++
			})
		}
	}
	if committed[1] < 5000 || committed[2] < 50000 || len(committed) != 2 {
		t.Errorf("so many of two were committed: %v", committed)
	}
}

// startAnew: the book begins with what the store holds, behind some changes.
func (k *desk) startAnew(texts ...string) {
	k.t.Helper()
	who := k.begin()
	k.change(who, texts...)
	k.ends(who, api.OK)
	k.book.Past, k.book.Named = k.book.Past[len(k.book.Past)-1:], nil
	k.before, k.seq = k.before+len(k.writers), k.st.Seq()
	k.readers, k.writers = nil, nil
}

// walk: any calls of some transactions, so many at most at one time.
type walk struct {
	*desk
	f    drill.Fitting
	keys int
	most int
}

func (w walk) key() string { return drill.SomeKey(w.f.Numbers, w.keys) }

// end: of a range.
func (w walk) end() string {
	switch w.f.Numbers.Below(8) {
	case 0, 1:
		return ""
	case 2:
		return w.key() + "\x00"
	case 3:
		return drill.Pick(w.f.Numbers, []string{"\x00", "\xff", strings.Repeat("\xff", 40), w.key()[:1], w.key() + strings.Repeat("z", 30)})
	}
	return w.key()
}

func (w walk) limit() int {
	return drill.Pick(w.f.Numbers, []int{0, 1, 1, 2, 3, 5, 8, 100, math.MaxInt, math.MaxInt - 1, -1, math.MinInt})
}

// any: of the calls of a transaction, now and then a wrong one.
func (w walk) any() call {
	switch w.f.Numbers.Below(16) {
	case 0, 1, 2, 3:
		return getOf(w.s, w.key())
	case 4, 5, 6:
		return scanOf(w.s, w.end(), w.end(), w.limit())
	case 7:
		return scanOf(w.s, "", "", w.limit())
	case 8:
		return w.wrong()
	}
	c := w.f.Change(w.key())
	if c.Kind == api.MPut {
		c.Vals = c.Vals[:w.f.Numbers.Below(len(c.Vals)+1)]
	}
	return changeOf(w.s, c)
}

func (w walk) wrong() call {
	long := strings.Repeat("k", 17)
	return drill.Pick(w.f.Numbers, []call{
		getOf(w.s, ""), getOf(w.s, long), changeOf(w.s, api.Change{Kind: api.MDelete, Key: long}), changeOf(w.s, api.Change{Kind: api.MUpsert, Key: w.key(), Src: "x = = 1"}),
		changeOf(w.s, api.Change{Kind: api.MPut, Key: w.key(), Vals: []api.Value{{Kind: 9}}}), changeOf(w.s, api.Change{Kind: api.MUpsert, Src: "new"}),
	})
}

// step: a begin, a call, a commit, an abort, or something else that is free to be done to the store.
func (w walk) step() {
	w.t.Helper()
	n := w.f.Numbers.Below(40)
	switch {
	case len(w.open) == 0 || n < 5 && len(w.open) < w.most:
		w.begin()
	case n < 10:
		w.commit(drill.Pick(w.f.Numbers, w.open))
	case n == 10:
		w.abort(drill.Pick(w.f.Numbers, w.open))
	case n == 11:
		w.durable(w.st.Sync)
	case n == 12:
		w.durable(w.st.Checkpoint)
	case n == 13:
		w.st.Get(w.key())
		w.st.Scan(w.end(), w.end(), 5)
	default:
		w.ask(drill.Pick(w.f.Numbers, w.open), w.any())
	}
}

// leave: all transactions end, with a commit for the most part.
func (w walk) leave() {
	w.t.Helper()
	for len(w.open) > 0 {
		if w.f.Numbers.Below(8) == 0 {
			w.abort(w.open[0])
		} else {
			w.commit(drill.Pick(w.f.Numbers, w.open))
		}
	}
	w.isNow()
}

// P21.1 to P21.9, W7: long schedules, of few transactions at one time and of many, over few keys and many, trees of all measures.
func TestLongSchedules(t *testing.T) {
	numbers := drill.Numbers(501)
	refused := 0
	for i, c := range drill.Measures() {
		for _, most := range []int{2, 5, 20, api.MaxOpen} {
			for _, keys := range []int{3, 40} {
				s := drill.Schemas()[i%2]
				w := walk{desk: newDesk(t, s, drill.GeometryOf(c, 8*keys+16), c), f: drill.Fitting{Schema: s, Numbers: &numbers}, keys: keys, most: most}
				for step := range 600 {
					was := len(w.open)
					w.step()
					if len(w.open) < was || step%50 == 0 {
						w.isNow()
					}
				}
				w.leave()
				refused += w.conflicts
				w.serial()
			}
		}
	}
	if refused < 500 {
		t.Errorf("%d transactions met a conflict", refused)
	}
}
