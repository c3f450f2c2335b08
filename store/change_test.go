package store_test

import (
	"slices"
	"testing"

	"arbor/api"
	"arbor/drill"
	"arbor/value"
)

// refused: a call that is to be refused, and that touches neither the disk nor the map.
func (w *world) refused(want api.Errno, cs ...api.Change) {
	w.t.Helper()
	was := w.d.Stats()
	if e := w.x.Apply(cs...); e != want {
		w.t.Fatalf("Apply(%s) = %d, want %d", drill.ShownChanges(w.s, cs), e, want)
	}
	if w.d.Stats() != was || w.x.Seq() != w.seq() {
		w.t.Fatalf("Apply(%s), which is refused, touches the disk", drill.ShownChanges(w.s, cs))
	}
}

// P18.4: the changes' own errors, each in its order, of Apply and of the calls for one change.
func TestWrongChanges(t *testing.T) {
	for _, s := range drill.Schemas() {
		w := found(t, geometryOf(exampleMeasures, 5, 200), exampleMeasures, s)
		w.do(api.Change{Kind: api.MPut, Key: "k", Vals: drill.Records(s)[0]})
		w.sync()
		for _, wrong := range drill.WrongChanges(s) {
			w.refused(wrong.Errno, wrong.Part)
			w.refusedAlone(wrong)
		}
		w.isNow()
		w.reopen()
		w.isNow()
	}
}

// refusedAlone: by the call for its kind, if its parts are such as that can be given.
func (w *world) refusedAlone(wrong drill.Wrong[api.Change]) {
	w.t.Helper()
	e, c, was := wrong.Errno, wrong.Part, w.d.Stats()
	switch {
	case c.Kind == api.MPut && c.Src == "":
		if _, refuses := value.Make(w.s, c.Vals...); refuses == api.OK && wrong.Errno == api.ErrValue {
			return // Put fills up
		}
		e = w.x.Put(c.Key, c.Vals...)
	case c.Kind == api.MDelete && len(c.Vals) == 0 && c.Src == "":
		e = w.x.Delete(c.Key)
	case c.Kind == api.MUpsert && len(c.Vals) == 0:
		e = w.x.Upsert(c.Key, c.Src)
	}
	if e != wrong.Errno || w.d.Stats() != was || w.x.Seq() != w.seq() {
		w.t.Fatalf("%s = %d, want %d", drill.ShownChange(w.s, c), e, wrong.Errno)
	}
}

// P18.4: of Apply: no changes, or too many, ahead of all that may be wrong with them.
func TestBatches(t *testing.T) {
	w := behindFour(t)
	put := drill.ChangeOf(w.s, "put c {n=1}")
	w.refused(api.ErrBatch)
	for _, many := range []int{9, 10, 255, 256, 257, 264, 1 << 17} {
		w.refused(api.ErrBatch, slices.Repeat([]api.Change{put}, many)...)
		w.refused(api.ErrBatch, make([]api.Change, many)...)
	}
	for many := 1; many <= api.MaxBatch; many++ {
		w.do(slices.Repeat([]api.Change{put}, many)...)
		w.refused(api.ErrKey, append(slices.Repeat([]api.Change{put}, many-1), api.Change{})...)
	}
	w.isNow()
}

// P18.4: the first change that is wrong is told, and nothing of the call is done, whatever stands ahead of it.
func TestTheFirstWrongChange(t *testing.T) {
	numbers := drill.Numbers(351)
	s := drill.Schemas()[0]
	w := found(t, geometryOf(exampleMeasures, 5, 200), exampleMeasures, s)
	f := drill.Fitting{Schema: s, Numbers: &numbers}
	wrong := drill.WrongChanges(s)
	for range 300 {
		cs := some(f, 9, 6)
		first, second := drill.Pick(&numbers, wrong), drill.Pick(&numbers, wrong)
		w.refused(first.Errno, append(cs, first.Part, second.Part)...)
		if numbers.Below(8) == 0 {
			w.do(cs...)
		}
	}
	w.isNow()
}

// P18.5: what the changes make of the map, one behind the other, by all ways of calling.
func TestChangesDoWhatTheyMean(t *testing.T) {
	numbers := drill.Numbers(352)
	for _, c := range drill.Measures() {
		for _, s := range drill.Schemas() {
			w := found(t, geometryOf(c, 11, 500), c, s)
			f := drill.Fitting{Schema: s, Numbers: &numbers}
			for i := range 150 {
				w.do(some(f, 30, 1+numbers.Below(8))...)
				if i%10 == 0 {
					w.isNow()
				}
			}
			w.isNow()
		}
	}
}

// P18.5: a put of Put has the zero record's values behind those that are given; a key may be any bytes.
func TestPutFillsUp(t *testing.T) {
	for _, s := range drill.Schemas() {
		w := found(t, geometryOf(exampleMeasures, 5, 200), exampleMeasures, s)
		for i, key := range drill.Keys() {
			record := drill.Records(s)[0]
			given := record[:i%(len(record)+1)]
			want, _ := value.Make(s, given...)
			if e := w.x.Put(key, given...); e != api.OK {
				t.Fatalf("Put(%q) = %d", key, e)
			}
			if row, e := w.x.Get(key); e != api.OK || !drill.SameRow(row, api.Row{Here: true, Vals: want}) {
				t.Errorf("Put(%q) of %d values: %s, %d", key, len(given), drill.ShownRow(s, row), e)
			}
		}
		if list, _ := w.x.Scan("", "", 99); len(list) != len(drill.Keys()) {
			t.Errorf("%d keys, want %d", len(list), len(drill.Keys()))
		}
	}
}

// P18.5: an upsert of no statements, or of a key that has no record, is accepted too: Seq counts it.
func TestChangesThatDoNothing(t *testing.T) {
	w := behindFour(t)
	w.doAll("upsert zz n += 1", "delete zz", "upsert zz ", "upsert a ", "upsert a # nothing")
	w.isNow()
	w.reopen()
	w.isNow()
}

// P18.5, P18.6: many adds to one counter are one message in the tree, and each of them a record in the log.
func TestCounters(t *testing.T) {
	w := example(t)
	w.doAll("put sum {n=0}")
	for i := range 300 {
		w.doAll("upsert sum n += 7")
		if i%50 == 0 {
			w.holds(opened(t, w.d.Survive(everything(w.d))), w.rows())
		}
	}
	w.wantRow("sum", "{n=2100}")
	w.isNow()
}

// W3, W2: every short script over one or two leaves, each brought back from the log too.
func TestEveryShortScript(t *testing.T) {
	s := drill.SchemaOf("n:int")
	var steps []api.Change
	for _, text := range []string{"put a {n=1}", "put b {n=2}", "put c {n=3}", "delete a", "delete b", "upsert a n += 1", "upsert c new; n += 5"} {
		steps = append(steps, drill.ChangeOf(s, text))
	}
	g := api.Geometry{Sector: 193, Per: 1, Log: 2, Blocks: 40}
	for length := range 5 {
		drill.Scripts(steps, length, func(script []api.Change) {
			w := found(t, g, exampleMeasures, s)
			for _, c := range script {
				w.do(c)
			}
			w.isNow()
			w.holds(opened(t, w.d.Survive(everything(w.d))), w.rows())
			if length > 0 {
				b := found(t, g, exampleMeasures, s)
				b.do(script...)
				b.holds(b.x, w.rows())
			}
		})
	}
}
