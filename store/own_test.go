package store_test

import (
	"slices"
	"sync"
	"testing"

	"arbor/api"
	"arbor/drill"
	"arbor/store"
)

var (
	spareValue = api.Value{Kind: 77, N: 77, S: "spare"}
	spareField = api.Field{Name: "spare"}
)

// roomy: the same changes in other memory, with marked room behind their lists.
func roomy(cs []api.Change) []api.Change {
	out := drill.Roomy(cs, api.Change{Key: "spare"})
	for i, c := range cs {
		out[i].Vals = drill.Roomy(c.Vals, spareValue)
	}
	return out
}

func asItWas(given, c api.Change) bool {
	return given.Kind == c.Kind && given.Key == c.Key && given.Src == c.Src && drill.AsItWas(given.Vals, c.Vals, spareValue)
}

// R5: changes, values and schemas that are handed in are neither changed nor kept.
func TestArgumentsAreNotKept(t *testing.T) {
	numbers := drill.Numbers(401)
	for _, c := range drill.Measures() {
		s := drill.Pick(&numbers, drill.Schemas())
		w := found(t, geometryOf(c, 6, 500), c, s)
		f := drill.Fitting{Schema: s, Numbers: &numbers}
		fields := drill.Roomy(s.Fields, spareField)
		x, e := store.Create(w.d, w.g, c, api.Schema{Fields: fields})
		if e != api.OK || !drill.AsItWas(fields, s.Fields, spareField) {
			t.Fatalf("Create = %d, and the schema is %v", e, fields)
		}
		drill.Overwrite(fields, spareField)
		w.x = x
		for i := range 80 {
			cs := some(f, 30, 6)
			given := roomy(cs)
			e := w.x.Apply(given...)
			if e != api.OK || !slices.EqualFunc(given, cs, asItWas) || given[:len(cs)+1][len(cs)].Key != "spare" {
				t.Fatalf("Apply = %d, and the changes are %s", e, drill.ShownChanges(s, given))
			}
			for _, c := range given {
				drill.Overwrite(c.Vals, spareValue)
			}
			drill.Overwrite(given, api.Change{Key: "spare"})
			w.past = append(w.past, w.behind(cs...))
			record := f.Record()[:numbers.Below(len(s.Fields)+1)]
			vals := drill.Roomy(record, spareValue)
			if e := w.x.Put("kept", vals...); e != api.OK || !drill.AsItWas(vals, record, spareValue) {
				t.Fatalf("Put = %d, and the values are %v", e, vals)
			}
			row, _ := w.x.Get("kept")
			drill.Overwrite(vals, spareValue)
			w.past = append(w.past, w.behind(api.Change{Kind: api.MPut, Key: "kept", Vals: row.Vals}))
			if i%8 == 0 {
				w.isNow()
			}
		}
		w.isNow()
		w.reopen()
		w.isNow()
	}
}

// R5: what is answered is new memory: no two lists of it share any, and what is done to it is not seen.
func TestAnswersShareNothing(t *testing.T) {
	numbers := drill.Numbers(402)
	for _, c := range drill.Measures() {
		w := grown(t, c, &numbers, 5, 30)
		var lists [][]api.Value
		var schemas [][]api.Field
		var entries [][]api.Entry
		for range 2 {
			list, _ := w.x.Scan("", "", 1000)
			entries = append(entries, list)
			for _, entry := range append(slices.Clone(list), gone(w.x, "", "", -1)...) {
				lists = append(lists, entry.Vals)
			}
			for key := range w.rows() {
				row, _ := w.x.Get(key)
				lists = append(lists, row.Vals)
			}
			schemas = append(schemas, w.x.Schema().Fields)
		}
		if drill.AnyTwoShare(lists) || drill.AnyTwoShare(schemas) || drill.AnyTwoShare(entries) {
			t.Fatalf("%v: two answers share memory", c)
		}
		for _, vals := range lists {
			drill.Overwrite(vals, spareValue)
		}
		for i := range schemas {
			drill.Overwrite(entries[i], api.Entry{Key: "spare"})
			drill.Overwrite(schemas[i], spareField)
		}
		for _, vals := range w.x.All("", "") {
			drill.Overwrite(vals, spareValue)
		}
		w.isNow()
		w.do(api.Change{Kind: api.MUpsert, Key: "k", Src: "new; n += 1"})
		w.isNow()
		if !slices.Equal(w.x.Schema().Fields, w.s.Fields) {
			t.Errorf("the schema became %v", w.x.Schema())
		}
	}
}

// R5: two reports of one image share nothing.
func TestReportsShareNothing(t *testing.T) {
	l := three()
	l.pages[5] = api.Frame{Kind: 'X'}
	image := l.image(t)
	a, _ := store.Audit(image, 64)
	b, _ := store.Audit(image, 64)
	if len(a.Bad) != 1 || drill.Shares(a.Bad, b.Bad) {
		t.Errorf("%v and %v", a, b)
	}
}

// R10, P18.15: several goroutines at one time: each call takes place as if alone. Two keys that every batch puts alike are alike for all who look; each goroutine finds its own changes.
func TestAtOneTime(t *testing.T) {
	for _, blocks := range []int{200, 9} {
		g := exampleSize
		g.Blocks, g.Log = blocks, 3
		w := found(t, g, exampleMeasures, drill.SchemaOf("n:int"))
		if blocks > 100 {
			w.doAll("put a {n=0}", "put b {n=0}", "put sum {n=0}")
		}
		var all sync.WaitGroup
		for number := range 6 {
			all.Add(1)
			go func() {
				defer all.Done()
				w.worker(number, blocks > 100)
			}()
		}
		all.Wait()
		if blocks > 100 {
			w.wantRow("sum", "{n=240}")
			if w.x.Seq() != 3+6*40*3 {
				t.Errorf("Seq = %d", w.x.Seq())
			}
			list, _ := w.x.Scan("", "", 99)
			if again, e := opened(t, w.d.Survive(everything(w.d))).Scan("", "", 99); e != api.OK || !drill.SameEntries(list, again) {
				t.Errorf("opened anew it holds %s, %d", w.shown(again), e)
			}
		}
	}
}

// worker: what one goroutine does.
func (w *world) worker(number int, roomy bool) {
	own := "w" + string(rune('0'+number))
	for i := range 40 {
		n := intOf(int64(100*number + i))
		calls := []api.Errno{
			w.x.Apply(api.Change{Kind: api.MPut, Key: "a", Vals: []api.Value{n}}, api.Change{Kind: api.MPut, Key: "b", Vals: []api.Value{n}}),
			w.x.Upsert("sum", "n += 1"),
			w.x.Put(own, n),
		}
		if i%7 == number {
			calls = append(calls, w.x.Checkpoint(), w.x.Sync())
		}
		for j, e := range calls {
			if e != api.OK && (roomy || e != api.ErrFull && e != api.ErrReadOnly) {
				w.t.Errorf("the call number %d = %d", j, e)
			}
		}
		row, e := w.x.Get(own)
		if roomy && (e != api.OK || !row.Here || row.Vals[0] != n) {
			w.t.Errorf("Get(%q) = %v, %d", own, row, e)
		}
		list, _ := w.x.Scan("a", "c", 9)
		for _, list := range [][]api.Entry{list, gone(w.x, "a", "c", -1)} {
			if len(list) == 1 || len(list) == 2 && list[0].Vals[0] != list[1].Vals[0] {
				w.t.Errorf("a and b are not alike: %s", w.shown(list))
			}
		}
		if mode := w.x.Mode(); roomy && mode != api.ModeOpen || w.x.Geometry() != w.g || w.x.Config() != w.c || len(w.x.Schema().Fields) != 1 {
			w.t.Errorf("Mode = %d", mode)
		}
	}
}
