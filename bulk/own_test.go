package bulk_test

import (
	"slices"
	"testing"

	"arbor/api"
	"arbor/bulk"
	"arbor/drill"
)

var (
	spareValue = api.Value{Kind: 77, N: 77, S: "spare"}
	spareField = api.Field{Name: "spare"}
	spareEntry = api.Entry{Key: "spare", Vals: []api.Value{spareValue}}
)

// roomyEntries: the same entries in other memory, with marked room behind their lists.
func roomyEntries(entries []api.Entry) []api.Entry {
	out := drill.Roomy(entries, spareEntry)
	for i, entry := range entries {
		out[i].Vals = drill.Roomy(entry.Vals, spareValue)
	}
	return out
}

func entriesAsTheyWere(given, entries []api.Entry) bool {
	same := func(given, entry api.Entry) bool {
		return given.Key == entry.Key && drill.AsItWas(given.Vals, entry.Vals, spareValue)
	}
	return slices.EqualFunc(given, entries, same) && given[:len(given)+1][len(given)].Key == spareEntry.Key
}

// P26.6: entries and schemas that are handed in are neither changed nor kept, whether the call is refused or not: what becomes of them later is not seen.
func TestArgumentsAreNotKept(t *testing.T) {
	numbers := drill.Numbers(451)
	for _, c := range drill.Measures() {
		for _, keys := range []int{0, 1, c.Leaf + 1, 3*c.Leaf*c.Fanout/2 + 1} {
			w := newSite(t, drill.GeometryOf(c, 1900), drill.Pick(&numbers, drill.Schemas()), c)
			entries := entriesOf(w.fitting(&numbers), min(keys, 1500))
			fields, given := drill.Roomy(w.s.Fields, spareField), roomyEntries(entries)
			bulk.Build(w.p, api.Schema{Fields: fields}, api.Config{}, given...)
			bulk.Build(nil, api.Schema{Fields: fields}, c, given...)
			root, e := bulk.Build(w.p, api.Schema{Fields: fields}, c, given...)
			if e != api.OK || !drill.AsItWas(fields, w.s.Fields, spareField) || !entriesAsTheyWere(given, entries) {
				t.Fatalf("%v: Build = %d, and its arguments were changed", c, e)
			}
			drill.Overwrite(fields, spareField)
			for _, entry := range given {
				drill.Overwrite(entry.Vals, spareValue)
			}
			drill.Overwrite(given, spareEntry)
			w.rows, w.x = rowsOf(entries), w.load(w.p, root)
			w.holds(w.x)
			w.shape()
		}
	}
}

// P26.6, R5: what is refused is not changed either.
func TestRefusedArgumentsAreNotChanged(t *testing.T) {
	w := example(t)
	for _, entries := range [][]api.Entry{named("abcdefghijklmnopqrstuvwxyz"), named("abdc"), append(named("ab"), api.Entry{Key: "c"}), append(named("ab"), api.Entry{})} {
		given := roomyEntries(entries)
		for _, left := range []int{38, 10} {
			for numbers := new(drill.Numbers); w.p.Left() > left; {
				w.putOther(numbers)
			}
			bulk.Build(w.p, w.s, w.c, given...)
			if !entriesAsTheyWere(given, entries) {
				t.Fatalf("entries were changed: %s", drill.ShownEntries(w.s, given))
			}
		}
	}
}

// P26.6, R5: entries that share their values with one another are the caller's business: what the tree answers shares nothing.
func TestEntriesThatShareTheirValues(t *testing.T) {
	s := drill.SchemaOf("n:int")
	for _, c := range drill.Measures() {
		w := newSite(t, drill.GeometryOf(c, 100), s, c)
		vals := []api.Value{{Kind: api.Int, N: 7}}
		var entries []api.Entry
		for _, entry := range named("abcdefghijklmnopqrstuvwxyz") {
			entries = append(entries, api.Entry{Key: entry.Key, Vals: vals})
		}
		w.builds(entries)
		w.apply(drill.MessageOf(s, "upsert c push 5; addto 0"))
		if vals[0].N != 7 {
			t.Fatalf("the values became %v", vals)
		}
		list, _ := w.x.Scan("", "", 99)
		var lists [][]api.Value
		for _, entry := range list {
			lists = append(lists, entry.Vals)
		}
		if drill.AnyTwoShare(append(lists, vals)) {
			t.Error("answers share memory")
		}
		w.rows = rowsOf(entries)
		w.rows["c"] = drill.RowOf(s, "{n=12}")
		w.holds(w.x)
	}
}

// R6: two trees of one pager, of the same entries, know nothing of one another.
func TestTwoTreesOfTheSameEntries(t *testing.T) {
	numbers := drill.Numbers(452)
	for _, c := range drill.Measures() {
		w := planted(t, c, &numbers, 40, 900)
		other := *w
		other.others, other.rows = map[int]string{}, rowsOf(drill.EntriesOf(w.rows, "", ""))
		other.builds(drill.EntriesOf(w.rows, "", ""))
		for range 30 {
			w.apply(some(w.fitting(&numbers), 60, 4)...)
			other.apply(some(other.fitting(&numbers), 60, 4)...)
		}
		w.holds(w.x)
		other.holds(other.x)
		list, _ := drill.Spots(w.p, w.s, other.x.Root())
		for _, at := range list {
			page, _ := w.p.Get(at.Block)
			w.others[at.Block] = string(page.Body)
		}
		w.shape()
	}
}
