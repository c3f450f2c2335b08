package store_test

import (
	"bytes"
	"maps"
	"slices"
	"strings"
	"testing"

	"arbor/api"
	"arbor/drill"
	"arbor/store"
)

// ends: texts that a range may have as its ends, keys and others.
func (w *world) ends(numbers *drill.Numbers) []string {
	list := []string{"", "\x00", "k", "\xff", strings.Repeat("\xff", 40)}
	keys := slices.Sorted(maps.Keys(w.rows()))
	for range 5 {
		key := drill.Pick(numbers, keys)
		list = append(list, key, key+"\x00")
	}
	return list
}

// P18.11: Get of every key that was named, and of others; wrong keys.
func TestGet(t *testing.T) {
	numbers := drill.Numbers(361)
	for _, c := range drill.Measures() {
		w := grown(t, c, &numbers, 5, 40)
		w.isNow()
		for _, key := range []string{"nobody", "\x00", strings.Repeat("z", 16)} {
			w.wantRow(key, "none")
		}
		for _, key := range []string{"", strings.Repeat("z", 17), strings.Repeat("z", 1<<20)} {
			if row, e := w.x.Get(key); e != api.ErrKey || row.Here || len(row.Vals) > 0 {
				t.Errorf("Get of %d bytes = %v, %d", len(key), row, e)
			}
		}
	}
}

// P18.12, P18.13: Scan and All of ranges and limits; the lower end is in, the upper one is not.
func TestScanAndAll(t *testing.T) {
	numbers := drill.Numbers(362)
	for _, c := range drill.Measures() {
		w := grown(t, c, &numbers, 5, 40)
		list := w.ends(&numbers)
		for _, lo := range list {
			for _, hi := range list {
				want := drill.EntriesOf(w.rows(), lo, hi)
				for _, limit := range []int{0, 1, 2, len(want), len(want) + 1, 1 << 40} {
					got, e := w.x.Scan(lo, hi, limit)
					if e != api.OK || !drill.SameEntries(got, want[:min(limit, len(want))]) {
						t.Fatalf("%v: Scan(%q, %q, %d) = %s, %d", c, lo, hi, limit, w.shown(got), e)
					}
				}
				if got := gone(w.x, lo, hi, -1); !drill.SameEntries(got, want) {
					t.Fatalf("%v: All(%q, %q) gives %s", c, lo, hi, w.shown(got))
				}
				if got := gone(w.x, lo, hi, 2); !drill.SameEntries(got, want[:min(2, len(want))]) {
					t.Fatalf("%v: All(%q, %q), stopped, gives %s", c, lo, hi, w.shown(got))
				}
			}
		}
		for _, limit := range []int{-1, -1 << 63} {
			if got, e := w.x.Scan("", "", limit); e != api.ErrArg || len(got) > 0 {
				t.Errorf("Scan with the limit %d = %v, %d", limit, got, e)
			}
		}
	}
}

// P18.13: each going through tells of the map as it is when it begins; to call All does nothing.
func TestAllBeginsAnew(t *testing.T) {
	w := behindFour(t)
	was := w.d.Stats()
	all := w.x.All("", "")
	if w.d.Stats() != was {
		t.Error("to call All reads")
	}
	for i := range 6 {
		w.doAll("put k"+string(rune('0'+i))+" {n=1}", "delete k"+string(rune('0'+(i+3)%6)))
		var got []api.Entry
		for key, vals := range all {
			got = append(got, api.Entry{Key: key, Vals: vals})
		}
		if !drill.SameEntries(got, drill.EntriesOf(w.rows(), "", "")) {
			t.Errorf("All gives %s", w.shown(got))
		}
	}
}

// P18.13: the body may do whatever it likes to the store, go through it once more among it: it is not seen in this going through.
func TestAllWithChanges(t *testing.T) {
	numbers := drill.Numbers(363)
	for _, c := range drill.Measures()[:5] {
		w := grown(t, c, &numbers, 4, 25)
		f := drill.Fitting{Schema: w.s, Numbers: &numbers}
		want := drill.EntriesOf(w.rows(), "", "")
		var got []api.Entry
		for key, vals := range w.x.All("", "") {
			got = append(got, api.Entry{Key: key, Vals: slices.Clone(vals)})
			w.do(some(f, 40, 4)...)
			w.do(api.Change{Kind: api.MDelete, Key: want[len(want)-len(got)].Key})
			if len(got)%3 == 0 {
				w.checkpoint()
				w.sync()
				w.isNow()
			}
			if len(got)%5 == 0 && !drill.SameEntries(gone(w.x, "", "", -1), drill.EntriesOf(w.rows(), "", "")) {
				t.Fatalf("%v: a going through within another one is wrong", c)
			}
		}
		if !drill.SameEntries(got, want) {
			t.Errorf("%v: All gives %s, want %s", c, w.shown(got), w.shown(want))
		}
		w.isNow()
	}
}

// P18.13: the store dies while it is gone through: what was begun goes on.
func TestAllOfADyingStore(t *testing.T) {
	w := behindFour(t)
	keys := ""
	for key := range w.x.All("", "") {
		if !w.d.Dead() {
			w.kill()
		}
		keys += key
	}
	if keys != "ab" {
		t.Errorf("All gives %q", keys)
	}
}

// A body that panics leaves the store as it is, and free.
func TestAllWithAPanic(t *testing.T) {
	w := behindFour(t)
	func() {
		defer func() { recover() }()
		for range w.x.All("", "") {
			panic("enough")
		}
	}()
	w.doAll("put c {n=1}")
	w.isNow()
}

// P18.14, P18.4: over pages that somebody changed Get and Scan answer what they would, or ErrDamaged; All gives some first entries; changes are accepted or refused with ErrDamaged; and when the bytes are again what they were, the store goes on as if nothing had been.
func TestDamageUnderAStore(t *testing.T) {
	numbers := drill.Numbers(364)
	met, refused := 0, 0
	for _, c := range drill.Measures() {
		w := grown(t, c, &numbers, 20, 30)
		f := drill.Fitting{Schema: w.s, Numbers: &numbers}
		for range 100 {
			block := numbers.Below(45) // the lowest ones are in use
			undo := w.spoil(block)
			met += w.answersOverDamage()
			cs := some(f, 30, 6)
			switch e := w.try(cs...); e {
			case api.OK:
			case api.ErrDamaged:
				refused++
			default:
				t.Fatalf("%v: %s = %d", c, drill.ShownChanges(w.s, cs), e)
			}
			if w.x.Seq() != w.seq() || w.x.Mode() != api.ModeOpen {
				t.Fatalf("%v: Seq = %d, Mode = %d", c, w.x.Seq(), w.x.Mode())
			}
			undo()
			w.isNow()
		}
	}
	if met < 400 || refused < 8 {
		t.Errorf("%d answers and %d changes met damage", met, refused)
	}
}

// spoil: the bytes of a block are others, until undone; unless a page was written there meanwhile.
func (w *world) spoil(block int) func() {
	from := 2 + w.g.Log + block*w.g.Per
	old := make([][]byte, w.g.Per)
	bad := bytes.Repeat([]byte{7}, w.g.Sector)
	for k := range old {
		old[k], _ = w.d.Read(from + k)
		w.d.Write(from+k, bad)
	}
	return func() {
		for k, b := range old {
			if now, _ := w.d.Read(from + k); bytes.Equal(now, bad) {
				w.d.Write(from+k, b)
			}
		}
	}
}

// answersOverDamage: how many of them meet it.
func (w *world) answersOverDamage() int {
	w.t.Helper()
	met := 0
	for key, want := range w.rows() {
		row, e := w.x.Get(key)
		if e == api.ErrDamaged {
			met++
			want = api.Row{}
		}
		if e != api.OK && e != api.ErrDamaged || !drill.SameRow(row, want) {
			w.t.Fatalf("%v: Get(%q) = %s, %d", w.c, key, drill.ShownRow(w.s, row), e)
		}
	}
	want := drill.EntriesOf(w.rows(), "", "")
	for _, limit := range []int{0, 1, len(want) / 2, len(want) + 1} {
		list, e := w.x.Scan("", "", limit)
		if e == api.ErrDamaged && len(list) == 0 {
			met++
		} else if e != api.OK || !drill.SameEntries(list, want[:min(limit, len(want))]) {
			w.t.Fatalf("%v: Scan = %s, %d", w.c, w.shown(list), e)
		}
	}
	if got := gone(w.x, "", "", -1); len(got) > len(want) || !drill.SameEntries(got, want[:len(got)]) {
		w.t.Fatalf("%v: All gives %s", w.c, w.shown(got))
	}
	return met
}

// P18.14, P18.4: pages that no store wrote: a kid that is no page is damage too, of whatever the layers below may say more.
func TestPagesThatNoStoreWrote(t *testing.T) {
	l := bare()
	l.pages[2] = api.Frame{Kind: 'I', Gen: 2, Body: []byte("\x02\x02\x09\x00\x04\x00\x01m\x00\x00")}
	l.pages[4] = api.Frame{Kind: 'L', Gen: 2, Body: []byte("\x01\x01\x01m\x01\x02")}
	w := &world{t: t, s: drill.SchemaOf("n:int"), x: opened(t, l.disk(t))}
	_, e := w.x.Get("a")
	w.want("Get", e, api.ErrDamaged)
	list, e := w.x.Scan("", "", 9)
	if w.want("Scan", e, api.ErrDamaged); len(list) > 0 {
		t.Errorf("Scan = %v", list)
	}
	w.wantRow("m", "{n=1}")
	if list, e := w.x.Scan("m", "", 9); e != api.OK || len(list) != 1 {
		t.Errorf("Scan = %v, %d", list, e)
	}
	many := make([]api.Change, 0, 8)
	for i := range 8 {
		many = append(many, drill.ChangeOf(w.s, "upsert a"+string(rune('a'+i))+" new; n = 1234567890123"))
	}
	w.want("Apply", w.x.Apply(many...), api.ErrDamaged)
	w.want("Put", w.x.Put("m", intOf(5)), api.OK)
	w.wantRow("m", "{n=5}")
	if w.x.Seq() != 42 || w.x.Mode() != api.ModeOpen {
		t.Errorf("Seq = %d, Mode = %d", w.x.Seq(), w.x.Mode())
	}
}

// R3: a nil store.
func TestNilStore(t *testing.T) {
	var x *store.Store
	row, e1 := x.Get("")
	list, e2 := x.Scan("", "", -1)
	for i, e := range []api.Errno{e1, e2, x.Put(""), x.Put("a", api.Value{Kind: 9}), x.Delete(""), x.Upsert("a", "n +"), x.Apply(), x.Apply(make([]api.Change, 9)...), x.Sync(), x.Checkpoint()} {
		if e != api.ErrArg {
			t.Errorf("the call number %d = %d", i, e)
		}
	}
	if row.Here || len(row.Vals)+len(list) > 0 || x.Mode() != 0 || x.Seq() != 0 || x.Geometry() != (api.Geometry{}) || x.Config() != (api.Config{}) || len(x.Schema().Fields) > 0 {
		t.Error("a nil store says something of itself")
	}
	for key := range x.All("", "") {
		t.Errorf("All gives %q", key)
	}
}
