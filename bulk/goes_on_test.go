package bulk_test

import (
	"maps"
	"math"
	"slices"
	"testing"

	"arbor/api"
	"arbor/drill"
	"arbor/message"
	"arbor/node"
	"arbor/tree"
)

// What was built is a tree as any other: P26.5.

// planted: a site with a tree of so many keys, in a pager with so many blocks.
func planted(t *testing.T, c api.Config, numbers *drill.Numbers, keys, blocks int) *site {
	t.Helper()
	w := newSite(t, drill.GeometryOf(c, blocks), drill.Pick(numbers, drill.Schemas()), c)
	w.builds(entriesOf(w.fitting(numbers), keys))
	return w
}

func (w *site) fitting(numbers *drill.Numbers) drill.Fitting {
	return drill.Fitting{Schema: w.s, Numbers: numbers}
}

// P26.5: Load takes it and reads its root alone; of another schema it takes nothing.
func TestLoadOfWhatWasBuilt(t *testing.T) {
	numbers := drill.Numbers(431)
	for _, c := range drill.Measures() {
		for _, keys := range []int{0, 1, c.Leaf, c.Leaf + 1, 4*c.Leaf + 1} {
			w := planted(t, c, &numbers, keys, 60)
			if reads, writes := w.costs(func() { w.load(w.p, w.x.Root()) }); reads != 1 || writes != 0 {
				t.Errorf("%v: Load reads %d pages and writes %d", c, reads, writes)
			}
			if high, e := w.x.Height(); e != api.OK || high != len(bookLevels(c, keys)) {
				t.Errorf("%v: Height = %d, %d, want %d", c, high, e, len(bookLevels(c, keys)))
			}
			if keys > 0 && keys <= c.Leaf {
				if x, e := tree.Load(w.p, drill.SchemaOf("n:int,m:int,k:int"), c, w.x.Root()); x != nil || e != api.ErrNode {
					t.Errorf("%v: Load of another schema = %v, %d", c, x, e)
				}
			}
		}
	}
}

// P26.5: P17.4 to P17.6: every key, every range; a Get reads a page of each level at most, and a range no page that it does not need.
func TestReading(t *testing.T) {
	numbers := drill.Numbers(432)
	for _, c := range drill.Measures() {
		keys := 5*c.Leaf + 30
		w := planted(t, c, &numbers, keys, 200)
		high, _ := w.x.Height()
		nodes := w.shape()
		for number := range 2 * keys {
			key := drill.Key(number)
			if reads, writes := w.costs(func() { w.gets(w.x, key) }); reads != high || writes != 0 {
				t.Fatalf("%v: Get(%q) reads %d pages and writes %d of a tree of height %d", c, key, reads, writes, high)
			}
		}
		for range 40 {
			lo, hi := drill.SomeKey(&numbers, 2*keys), drill.SomeKey(&numbers, 2*keys)
			if numbers.Below(4) == 0 {
				hi = ""
			}
			w.scans(nodes, lo, hi, numbers.Below(keys))
		}
		w.scans(nodes, "", "", math.MaxInt)
	}
}

func (w *site) scans(nodes []drill.Spot, lo, hi string, limit int) {
	w.t.Helper()
	want := drill.EntriesOf(w.rows, lo, hi)
	var got []api.Entry
	var e api.Errno
	reads, writes := w.costs(func() { got, e = w.x.Scan(lo, hi, limit) })
	if e != api.OK || writes != 0 || !drill.SameEntries(got, want[:min(limit, len(want))]) {
		w.t.Fatalf("%v: Scan(%q, %q, %d) = %s, %d, want of %s", w.c, lo, hi, limit, drill.ShownEntries(w.s, got), e, drill.ShownEntries(w.s, want))
	}
	most := 0
	for _, at := range nodes {
		if at.MeetsBelow(lo, hi) && (limit > len(want) || limit > 0 && at.Meets(lo, want[limit-1].Key)) {
			most++
		}
	}
	if reads > most {
		w.t.Fatalf("%v: Scan(%q, %q, %d) reads %d pages, %d at most", w.c, lo, hi, limit, reads, most)
	}
	var list []api.Entry
	for key, vals := range w.x.All(lo, hi) {
		list = append(list, api.Entry{Key: key, Vals: vals})
	}
	if !drill.SameEntries(list, want) {
		w.t.Fatalf("%v: All(%q, %q) = %s, want %s", w.c, lo, hi, drill.ShownEntries(w.s, list), drill.ShownEntries(w.s, want))
	}
}

// P26.5: P17.7 to P17.9: it grows, shrinks, is emptied, and grows again; it is refused what any tree is refused.
func TestGoesOn(t *testing.T) {
	numbers := drill.Numbers(433)
	for _, c := range drill.Measures() {
		for _, keys := range []int{0, c.Leaf + 1, 3*c.Leaf + 20} {
			w := planted(t, c, &numbers, keys, 900)
			f := w.fitting(&numbers)
			for phase := range 4 {
				for range 15 {
					ms := some(f, keys+40, 12)
					for i, m := range ms {
						if phase%2 == 1 && numbers.Below(4) > 0 {
							ms[i] = api.Message{Kind: api.MDelete, Key: m.Key}
						}
					}
					w.changes(ms)
				}
				w.holds(w.x)
				w.refuses()
			}
			for _, key := range slices.Sorted(maps.Keys(w.rows)) {
				w.apply(api.Message{Kind: api.MDelete, Key: key})
			}
			w.shape()
			w.holds(w.x)
			w.changes(putsOf(entriesOf(f, keys+3)))
			w.holds(w.x)
		}
	}
}

// changes: a call that is accepted: the root is another page, the tree has its shape, and of the pages none but its own are in use.
func (w *site) changes(ms []api.Message) {
	w.t.Helper()
	root := w.x.Root()
	w.apply(ms...)
	if w.x.Root() == root {
		w.t.Fatalf("%v: the root is the page %d still", w.c, root)
	}
	w.shape()
	for _, m := range ms {
		w.gets(w.x, m.Key)
	}
}

func (w *site) refuses() {
	w.t.Helper()
	root, left, used := w.x.Root(), w.p.Left(), drill.Pages(w.p)
	put := putsOf(entriesOf(w.fitting(new(drill.Numbers)), 1))[0]
	if e := w.x.Apply(put, api.Message{Kind: api.MDelete}); e != api.ErrKey {
		w.t.Fatalf("Apply with a message that may not be = %d", e)
	}
	w.p.Begin()
	if e := w.x.Apply(put); e != api.ErrOp {
		w.t.Fatalf("Apply within somebody's operation = %d", e)
	}
	w.p.Cancel()
	if e := w.x.Apply(); e != api.OK || w.x.Root() != root || w.p.Left() != left || !slices.Equal(drill.Pages(w.p), used) {
		w.t.Fatalf("calls that are refused, or have no messages, change the pages: %d", e)
	}
}

// P26.5: P17.10, 1: a message that has room in the root reads one page at most and writes one.
func TestCostsOfAMessageThatHasRoom(t *testing.T) {
	numbers := drill.Numbers(434)
	asked := 0
	for _, c := range drill.Measures() {
		for _, keys := range []int{c.Leaf + 1, 3*c.Leaf*c.Fanout/2 + 1} {
			w := planted(t, c, &numbers, min(keys, 2000), 1900)
			f := w.fitting(&numbers)
			for range 60 {
				m := f.Message(drill.SomeKey(&numbers, keys+20))
				room := w.hasRoom(m)
				if reads, writes := w.costs(func() { w.apply(m) }); room && (reads > 1 || writes != 1) {
					t.Fatalf("%v: a message that has room: %d pages are read, %d written", c, reads, writes)
				}
				if room {
					asked++
				}
			}
			w.shape()
		}
	}
	if asked < 300 {
		t.Errorf("%d messages had room", asked)
	}
}

func (w *site) hasRoom(m api.Message) bool {
	f, _ := w.p.Get(w.x.Root())
	root, _ := node.Decode(w.s, f.Body)
	waits := slices.ContainsFunc(root.Msgs, func(waiting api.Message) bool { return waiting.Key == m.Key })
	return root.Level > 1 && !waits && node.Waiting(w.s, root)+message.Size(w.s, m) <= w.c.Buffer
}

// P26.5: P17.11: 8k + 15 + o blocks are never too few, k the keys of the entries and of all messages, o the pages of somebody else.
func TestNeverFull(t *testing.T) {
	numbers := drill.Numbers(435)
	for _, c := range drill.Measures()[:7] {
		for _, keys := range []int{0, 1, 2, 3, 5, 13, 30} {
			for _, more := range []int{1, keys + 1} {
				for _, others := range []int{0, 3} {
					for commits := range 3 {
						w := neverFull(t, c, &numbers, keys, more, others, commits)
						w.shape()
						w.holds(w.x)
					}
				}
			}
		}
	}
}

// neverFull: a tree of so many keys, and calls that name more. Commits are none, some or one behind every call.
func neverFull(t *testing.T, c api.Config, numbers *drill.Numbers, keys, more, others, commits int) *site {
	t.Helper()
	blocks := 8*(keys+more) + 15 + others
	w := newSite(t, drill.GeometryOf(c, blocks), drill.Pick(numbers, drill.Schemas()), c)
	for range others {
		w.putOther(numbers)
		if numbers.Below(2) == 0 {
			w.commit(-1)
		}
	}
	f := w.fitting(numbers)
	w.builds(entriesOf(f, keys))
	if commits > 0 {
		w.commit(w.x.Root())
	}
	for i := range 6 {
		ms := some(f, keys+more, 3*(keys+more))
		switch i {
		case 1:
			ms = putsOf(entriesOf(f, keys+more))
		case 4:
			ms = nil
			for number := range keys + more {
				ms = append(ms, api.Message{Kind: api.MDelete, Key: drill.Key(number)})
			}
		}
		w.apply(ms...)
		if commits == 2 || commits == 1 && numbers.Below(2) == 0 {
			w.commit(w.x.Root())
		}
	}
	return w
}

// P26.5: P17.11: so it is if single messages come, each a call.
func TestNeverFullByAndBy(t *testing.T) {
	numbers := drill.Numbers(436)
	for _, c := range drill.Measures()[:5] {
		for _, keys := range []int{4, 30, 90} {
			w := planted(t, c, &numbers, keys, 8*2*keys+15)
			f := w.fitting(&numbers)
			for call := range 6 * keys {
				w.apply(f.Message(drill.SomeKey(&numbers, 2*keys)))
				if call%5 == 0 && keys != 30 {
					w.commit(w.x.Root())
				}
			}
			w.shape()
			w.holds(w.x)
		}
	}
}

// P26.5: P17.12: a tree that is loaded anew ahead of every call does just what one does that is not, to the page.
func TestLoadedAnewDoesTheSame(t *testing.T) {
	numbers := drill.Numbers(437)
	for _, c := range drill.Measures() {
		a := planted(t, c, &numbers, 30, 300)
		b := newSite(t, a.p.Geometry(), a.s, c)
		b.builds(drill.EntriesOf(a.rows, "", ""))
		for i := range 60 {
			ms := some(a.fitting(&numbers), 60, 4)
			b.x = b.load(b.p, b.x.Root())
			if e, other := a.x.Apply(ms...), b.x.Apply(ms...); e != other || a.x.Root() != b.x.Root() || a.p.Left() != b.p.Left() {
				t.Fatalf("%v: Apply = %d, %d; the roots are %d, %d", c, e, other, a.x.Root(), b.x.Root())
			}
			if i%20 == 0 {
				a.commit(a.x.Root())
				b.commit(b.x.Root())
			}
			if !drill.SameWrites(a.d.Pending(), b.d.Pending()) {
				t.Fatalf("%v: the writes of the two are not the same", c)
			}
		}
	}
}

// What follows: it holds what a tree holds to which the puts of its entries were applied, in whatever order and lists, and what becomes of both is the same. No tree of its measures and entries in which nothing waits has fewer leaves.
func TestHoldsWhatPutsMake(t *testing.T) {
	numbers := drill.Numbers(438)
	for _, c := range drill.Measures() {
		for _, keys := range []int{0, 1, c.Leaf + 1, 60} {
			w := planted(t, c, &numbers, keys, 900)
			leaves := 0
			for _, at := range w.shape() {
				if len(at.Node.Msgs) > 0 {
					t.Fatalf("%v: messages wait in a tree that was built", c)
				}
				if at.Node.Level == 1 {
					leaves++
				}
			}
			if least := (keys + c.Leaf - 1) / c.Leaf; leaves != max(1, least) {
				t.Errorf("%v: %d entries in %d leaves", c, keys, leaves)
			}
			x, e := tree.New(w.p, w.s, c)
			if e != api.OK {
				t.Fatalf("New = %d", e)
			}
			ms := putsOf(drill.EntriesOf(w.rows, "", ""))
			for at := len(ms) - 1; at > 0; at-- {
				other := numbers.Below(at + 1)
				ms[at], ms[other] = ms[other], ms[at]
			}
			for len(ms) > 0 {
				many := 1 + numbers.Below(min(7, len(ms)))
				if e := x.Apply(ms[:many]...); e != api.OK {
					t.Fatalf("Apply = %d", e)
				}
				ms = ms[many:]
			}
			w.holds(x)
			for range 20 {
				ms := some(w.fitting(&numbers), keys+9, 4)
				w.apply(ms...)
				if e := x.Apply(ms...); e != api.OK {
					t.Fatalf("Apply = %d", e)
				}
			}
			w.holds(x)
			w.holds(w.x)
		}
	}
}
