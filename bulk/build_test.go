package bulk_test

import (
	"slices"
	"testing"

	"arbor/api"
	"arbor/drill"
)

// P26.2, P26.3, P26.5: the book's pages, of all measures, with few entries and many, at every edge where there is a leaf, a node or a level more.
func TestBuild(t *testing.T) {
	numbers := drill.Numbers(401)
	for _, c := range drill.Measures() {
		for i, many := range counts(c, 700) {
			s := drill.Schemas()[i%2]
			w := newSite(t, drill.GeometryOf(c, max(4, bookPages(c, many)+2)), s, c)
			w.builds(entriesOf(drill.Fitting{Schema: s, Numbers: &numbers}, many))
			w.shape()
			w.holds(w.x)
		}
	}
}

// P26.2, P26.3: every number of entries in small measures.
func TestBuildOfEveryNumber(t *testing.T) {
	numbers := drill.Numbers(402)
	for _, c := range drill.Measures()[:4] {
		f := drill.Fitting{Schema: drill.Schemas()[0], Numbers: &numbers}
		for many := range 150 {
			w := newSite(t, drill.GeometryOf(c, max(4, bookPages(c, many)+2)), f.Schema, c)
			w.builds(entriesOf(f, many))
			w.shape()
		}
	}
}

// P26.2: among somebody's pages, in blocks that are free here and there, each tree beside the others.
func TestBuildAmongOtherPages(t *testing.T) {
	numbers := drill.Numbers(403)
	for _, c := range drill.Measures() {
		for _, many := range []int{0, 1, c.Leaf + 1, 3*c.Leaf + 1, 5*c.Leaf*c.Fanout/4 + 1} {
			pages := bookPages(c, many)
			w := mixed(t, drill.Pick(&numbers, drill.Schemas()), c, &numbers, 3*pages)
			f := drill.Fitting{Schema: w.s, Numbers: &numbers}
			var trees []site
			for range 3 {
				w.builds(entriesOf(f, many))
				w.shape()
				trees = append(trees, *w)
				for _, at := range w.shape() {
					page, _ := w.p.Get(at.Block)
					w.others[at.Block] = string(page.Body)
				}
			}
			for _, other := range trees {
				other.holds(other.x)
			}
			if w.p.Left() != 0 {
				t.Errorf("%v: %d blocks are left", c, w.p.Left())
			}
		}
	}
}

// P26.2: keys of all lengths and bytes, that rise bytewise; records of all kinds.
func TestBuildOfAllKeysAndRecords(t *testing.T) {
	numbers := drill.Numbers(404)
	keys := append(drill.Keys(), "a", "a\x00", "a\x00\x00", "aa", "a\x7f", "a\x80", "a\xff", "A", "b")
	slices.Sort(keys)
	for _, s := range append(drill.Schemas(), drill.SchemaOf("on:bool"), drill.SchemaOf("a:bytes?,b:bytes?,c:bytes?"), drill.SchemaOf("a:int,b:int,c:int,d:int,e:int,f:int,g:bool,h:bool")) {
		records := drill.Records(s)
		for _, c := range drill.Measures() {
			var entries []api.Entry
			for _, key := range keys {
				entries = append(entries, api.Entry{Key: key, Vals: drill.Pick(&numbers, records)})
			}
			w := newSite(t, drill.GeometryOf(c, 60), s, c)
			w.builds(entries)
			w.shape()
			w.holds(w.x)
		}
	}
}

// P26.2: the widest leaf, of keys and records as long as may be, and the widest inner node have room in a page that has just as much.
func TestBuildOfTheWidestNodes(t *testing.T) {
	s := drill.SchemaOf("a:bytes?,b:bytes?,c:bytes?")
	long := api.Value{Kind: api.Bytes, S: "01234567890123456789"}
	for _, c := range drill.Measures() {
		var entries []api.Entry
		for number := range c.Leaf * c.Fanout {
			key := []byte("a key of 16 byt\x00")
			key[1], key[2] = byte(number>>8), byte(number)
			entries = append(entries, api.Entry{Key: string(key), Vals: []api.Value{long, long, long}})
		}
		w := newSite(t, drill.GeometryOf(c, 140), s, c)
		w.builds(entries)
		w.shape()
		w.holds(w.x)
	}
}

// R4, R6: no entries are none, as nil or as a list without elements; what was built elsewhere, or refused, plays no part.
func TestBuildsKnowNothingOfOneAnother(t *testing.T) {
	numbers := drill.Numbers(405)
	c := drill.Measures()[1]
	f := drill.Fitting{Schema: drill.Schemas()[1], Numbers: &numbers}
	list := entriesOf(f, 41)
	a, b := newSite(t, drill.GeometryOf(c, 200), f.Schema, c), newSite(t, drill.GeometryOf(c, 200), f.Schema, c)
	for _, many := range []int{0, 40, 7, 0, 1} {
		for _, none := range [][]api.Entry{nil, {}, make([]api.Entry, 0, 3)} {
			entries := append(none, list[:many]...)
			a.builds(entries)
			a.holds(a.x)
			b.refused(api.ErrRising, c, append(slices.Clone(list[:many+1]), list[many])...)
			b.builds(slices.Clone(entries))
			if !drill.SameWrites(a.d.Pending(), b.d.Pending()) {
				t.Fatalf("%d entries: two pagers, and other pages", many)
			}
		}
	}
}
