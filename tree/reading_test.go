package tree_test

import (
	"maps"
	"math"
	"slices"
	"strings"
	"testing"

	"arbor/api"
	"arbor/drill"
	"arbor/node"
	"arbor/tree"
)

// ends: texts to scan from and to: keys, and what is none.
func ends(w *world, numbers *drill.Numbers, many int) []string {
	list := []string{"", "\x00", "k", "\xff", strings.Repeat("\xff", 16), strings.Repeat("\xff", 40), strings.Repeat("k", 17), strings.Repeat("5", 1000)}
	for range many {
		key := drill.SomeKey(numbers, 150)
		list = append(list, key, key+"\x00", key[:len(key)-1], key+strings.Repeat("\x00", 16))
	}
	for _, at := range w.spots(w.p, w.x.Root()) {
		list = append(list, drill.Pick(numbers, append(at.Node.Pivots, "k")))
	}
	return list[:min(len(list), many*6)]
}

// P17.4: every key's row; no more pages are read than the tree is high, one of each level, and nothing is written.
func TestGet(t *testing.T) {
	numbers := drill.Numbers(173)
	for _, c := range drill.Measures() {
		w := grown(t, c, &numbers, 90)
		high, _ := w.x.Height()
		keys := append(drill.Keys(), "never", "named")
		keys = append(keys, slices.Sorted(maps.Keys(w.rows))...)
		for _, key := range keys {
			if reads, writes := w.costs(func() { w.gets(w.x, key) }); reads > high || writes != 0 {
				t.Fatalf("Get(%q) reads %d pages and writes %d of a tree of height %d", key, reads, writes, high)
			}
		}
		for range 20 {
			key := drill.Pick(&numbers, keys)
			hurt := w.damaged(func(at drill.Spot) bool { return at.InRange(key) })
			hurt.gets(hurt.x, key)
		}
	}
}

// P17.4: what is no key is refused, ahead of any reading.
func TestGetOfNoKey(t *testing.T) {
	w := acd(t)
	hurt := w.damaged(func(drill.Spot) bool { return false })
	for _, key := range []string{"", strings.Repeat("k", 17), strings.Repeat("k", 1<<20)} {
		for _, x := range []*tree.Tree{w.x, hurt.x} {
			if row, e := x.Get(key); e != api.ErrKey || row.Here || len(row.Vals) > 0 {
				t.Errorf("Get of a key of %d bytes = %v, %d", len(key), row, e)
			}
		}
	}
}

// P17.5: ranges of all kinds, with every limit.
func TestScan(t *testing.T) {
	numbers := drill.Numbers(174)
	for _, c := range drill.Measures() {
		w := grown(t, c, &numbers, 60)
		for _, lo := range ends(w, &numbers, 5) {
			for _, hi := range ends(w, &numbers, 3) {
				want := w.within(lo, hi)
				for _, limit := range []int{0, 1, 2, numbers.Below(len(want) + 1), len(want), len(want) + 1, math.MaxInt} {
					got, e := w.x.Scan(lo, hi, limit)
					if e != api.OK || !drill.SameEntries(got, want[:min(limit, len(want))]) {
						t.Fatalf("%v: Scan(%q, %q, %d) = %s, %d, want of %s", c, lo, hi, limit, w.shown(got), e, w.shown(want))
					}
				}
				for _, limit := range []int{-1, math.MinInt} {
					if got, e := w.x.Scan(lo, hi, limit); e != api.ErrArg || len(got) > 0 {
						t.Fatalf("Scan with the limit %d = %v, %d", limit, got, e)
					}
				}
			}
		}
	}
}

// all: what All gives, up to so many entries.
func all(x *tree.Tree, lo, hi string, most int) []api.Entry {
	var list []api.Entry
	if most == 0 {
		return nil
	}
	for key, vals := range x.All(lo, hi) {
		list = append(list, api.Entry{Key: key, Vals: vals})
		if len(list) == most {
			break
		}
	}
	return list
}

// P17.6: the same entries, one by one, and who has enough stops. Scan reads just what All reads that is stopped there.
func TestAll(t *testing.T) {
	numbers := drill.Numbers(175)
	for _, c := range drill.Measures() {
		w := grown(t, c, &numbers, 70)
		for _, lo := range ends(w, &numbers, 4) {
			for _, hi := range ends(w, &numbers, 2) {
				want := w.within(lo, hi)
				for _, most := range []int{0, 1, numbers.Below(len(want) + 1), len(want), len(want) + 1} {
					var got []api.Entry
					reads, writes := w.costs(func() { got = all(w.x, lo, hi, most) })
					if !drill.SameEntries(got, want[:min(most, len(want))]) {
						t.Fatalf("%v: All(%q, %q) up to %d = %s, want of %s", c, lo, hi, most, w.shown(got), w.shown(want))
					}
					more, none := w.costs(func() { w.x.Scan(lo, hi, most) })
					if reads != more || writes+none != 0 {
						t.Fatalf("%v: All(%q, %q) up to %d reads %d pages, Scan reads %d; %d are written", c, lo, hi, most, reads, more, writes+none)
					}
				}
			}
		}
	}
}

// P17.6: each going through begins anew, and tells of the tree as it is then.
func TestAllBeginsAnew(t *testing.T) {
	w := example(t)
	f := drill.Fitting{Schema: w.s, Numbers: new(drill.Numbers)}
	seq := w.x.All("", "")
	for number := range 30 {
		var got []api.Entry
		for key, vals := range seq {
			got = append(got, api.Entry{Key: key, Vals: vals})
			for key, inner := range seq { // one within another
				if key != got[0].Key || !slices.Equal(inner, got[0].Vals) {
					t.Fatalf("the first entry is %q, and then %q", got[0].Key, key)
				}
				break
			}
		}
		if !drill.SameEntries(got, w.within("", "")) {
			t.Fatalf("All = %s, want %s", w.shown(got), w.shown(w.within("", "")))
		}
		w.apply(putOf(f, drill.Key(number)), deleteOf(drill.Key(number-2&15)))
	}
}

// P17.6: what was read when an entry is given, and at the end: no page of a node in whose range there is no text that had to be looked at, and each once. (All other pages are broken, so that to read one would end it.)
func TestAllReadsNoMore(t *testing.T) {
	numbers := drill.Numbers(176)
	for _, c := range drill.Measures() {
		w := grown(t, c, &numbers, 60)
		nodes := w.shape()
		for range 25 {
			lo, hi := drill.Pick(&numbers, ends(w, &numbers, 3)), drill.Pick(&numbers, ends(w, &numbers, 3))
			if reads, _ := w.costs(func() { w.x.All(lo, hi) }); reads != 0 {
				t.Fatalf("to call All reads %d pages", reads)
			}
			want, was := w.within(lo, hi), w.d.Stats().Reads
			for key := range w.x.All(lo, hi) {
				if reads := (w.d.Stats().Reads - was) / w.p.Geometry().Per; reads > count(nodes, func(at drill.Spot) bool { return at.Meets(lo, key) }) {
					t.Fatalf("%v: All(%q, %q) up to %q reads %d pages", c, lo, hi, key, reads)
				}
			}
			reads, _ := w.costs(func() { all(w.x, lo, hi, len(want)+1) })
			if reads > count(nodes, func(at drill.Spot) bool { return at.MeetsBelow(lo, hi) }) {
				t.Fatalf("%v: All(%q, %q) reads %d pages", c, lo, hi, reads)
			}
			w.readsOnly(lo, hi, want, &numbers)
		}
	}
}

func (w *world) readsOnly(lo, hi string, want []api.Entry, numbers *drill.Numbers) {
	w.t.Helper()
	x := w.damaged(func(at drill.Spot) bool { return at.MeetsBelow(lo, hi) }).x
	w.scans(x, lo, hi)
	if got := all(x, lo, hi, len(want)+1); !drill.SameEntries(got, want) {
		w.t.Fatalf("%v: All(%q, %q) reads more pages than it needs: %s, want %s", w.c, lo, hi, w.shown(got), w.shown(want))
	}
	if len(want) == 0 {
		return
	}
	most := 1 + numbers.Below(len(want))
	x = w.damaged(func(at drill.Spot) bool { return at.Meets(lo, want[most-1].Key) }).x
	if got := all(x, lo, hi, most); !drill.SameEntries(got, want[:most]) {
		w.t.Fatalf("%v: All(%q, %q) up to %d reads more pages than it needs: %s", w.c, lo, hi, most, w.shown(got))
	}
	if got, e := x.Scan(lo, hi, most); e != api.OK || !drill.SameEntries(got, want[:most]) {
		w.t.Fatalf("%v: Scan(%q, %q, %d) reads more pages than it needs: %s, %d", w.c, lo, hi, most, w.shown(got), e)
	}
}

func count(nodes []drill.Spot, is func(drill.Spot) bool) int {
	many := 0
	for _, at := range nodes {
		if is(at) {
			many++
		}
	}
	return many
}

// P17.6: a range without a text is not looked for at all.
func TestEmptyRangesAreNotRead(t *testing.T) {
	w := acd(t)
	hurt := w.damaged(func(drill.Spot) bool { return false })
	d, x := hurt.d, hurt.x
	for _, r := range [][2]string{{"b", "a"}, {"a", "a"}, {"\x00", "\x00"}, {"z", "b"}, {strings.Repeat("a", 40), "a"}} {
		was := d.Stats()
		if got, e := x.Scan(r[0], r[1], 9); e != api.OK || len(got) > 0 || d.Stats() != was {
			t.Errorf("Scan(%q, %q) = %v, %d", r[0], r[1], got, e)
		}
		if got := all(x, r[0], r[1], 9); len(got) > 0 || d.Stats() != was {
			t.Errorf("All(%q, %q) = %v", r[0], r[1], got)
		}
	}
	if got, e := x.Scan("", "", 0); e != api.OK || len(got) > 0 {
		t.Errorf("Scan with the limit 0 = %v, %d", got, e)
	}
}

// broken: of the tree's pages one may not be read: what needs it answers an error, all else as ever.
func (w *world) broken(bad drill.Spot, want api.Errno, why string) {
	w.t.Helper()
	for key := range w.rows {
		if !bad.InRange(key) {
			w.gets(w.x, key)
		} else if row, e := w.x.Get(key); e != want || row.Here || len(row.Vals) > 0 {
			w.t.Fatalf("%v: Get(%q) over %s = %v, %d", w.c, key, why, row, e)
		}
	}
	list := w.within("", bad.Lo)
	if bad.Lo == "" {
		list = nil
	}
	if got := all(w.x, "", "", len(w.rows)+1); !drill.SameEntries(got, list) {
		w.t.Fatalf("%v: All over %s = %s, want %s", w.c, why, w.shown(got), w.shown(list))
	}
	if got, e := w.x.Scan("", "", len(list)+1); e != want || len(got) > 0 {
		w.t.Fatalf("%v: Scan over %s = %s, %d", w.c, why, w.shown(got), e)
	}
	if got, e := w.x.Scan("", "", len(list)); e != api.OK || !drill.SameEntries(got, list) {
		w.t.Fatalf("%v: Scan up to %s = %s, %d", w.c, why, w.shown(got), e)
	}
	if !bad.Open {
		w.scans(w.x, bad.Hi, "")
	}
}

// Reading: a page that is damaged is told, and never believed, by all that need it.
func TestDamagedPages(t *testing.T) {
	numbers := drill.Numbers(177)
	for _, c := range drill.Measures() {
		w := grown(t, c, &numbers, 40)
		for _, bad := range w.shape() {
			hurt := w.damaged(func(at drill.Spot) bool { return at.Block != bad.Block })
			hurt.broken(bad, api.ErrDamaged, "a damaged page")
		}
	}
}

// Reading: so is a page that is whole, but not that of a node of the level that is due there.
func TestWrongPages(t *testing.T) {
	numbers := drill.Numbers(178)
	for _, c := range drill.Measures()[:4] {
		w := grown(t, c, &numbers, 40)
		w.commit()
		nodes := w.shape()
		top := nodes[0].Node.Level
		for _, bad := range nodes {
			f, _ := w.p.Get(bad.Block)
			pages := []api.Frame{{Kind: 'C', Gen: f.Gen, Body: f.Body}, {Kind: 'L' + 'I' - f.Kind, Gen: f.Gen, Body: f.Body}, {Kind: f.Kind, Gen: f.Gen}}
			if bad.Node.Level != top { // of the root any level may be
				other := bad.Node
				other.Level++
				if bad.Node.Level == 1 {
					other = api.Node{Level: 2, Kids: []int{1, 2}, Pivots: []string{"k"}}
				}
				body, _ := node.Encode(w.s, other)
				pages = append(pages, api.Frame{Kind: 'I', Gen: f.Gen, Body: body})
			}
			for _, page := range pages {
				w.over(w.withPage(bad.Block, page)).broken(bad, api.ErrDamaged, "a wrong page")
			}
		}
	}
}

// Reading: the pager's other errors.
func TestReadingWithoutPagesOrPower(t *testing.T) {
	numbers := drill.Numbers(179)
	w := grown(t, exampleMeasures, &numbers, 30)
	nodes := w.shape()
	w.commit()
	for _, bad := range nodes {
		w.p.Begin()
		w.p.Drop(bad.Block)
		w.broken(bad, api.ErrBlock, "a page that was dropped")
		w.p.Cancel()
	}
	w.holds(w.x)
	w.kill()
	w.broken(nodes[0], api.ErrPower, "a dead disk")
	if _, e := w.x.Height(); e != api.ErrPower {
		t.Errorf("Height over a dead disk = %d", e)
	}
}
