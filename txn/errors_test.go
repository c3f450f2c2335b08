package txn_test

import (
	"math"
	"strings"
	"testing"

	"arbor/api"
	"arbor/drill"
	"arbor/txn"
	"arbor/value"
)

// desks: one for each of drill's schemas, with a few rows.
func desks(t *testing.T) []*desk {
	t.Helper()
	var list []*desk
	for i, s := range drill.Schemas() {
		c := drill.Measures()[i]
		k := newDesk(t, s, drill.GeometryOf(c, 200), c)
		who := k.begin()
		for number := range 6 {
			k.ask(who, changeOf(s, api.Change{Kind: api.MPut, Key: drill.Key(number)}))
		}
		k.ends(who, api.OK)
		list = append(list, k)
	}
	return list
}

// everyCall: what any call of a transaction answers, whatever it is given.
func everyCall(t *testing.T, x *txn.Txn, want api.Errno) {
	t.Helper()
	for _, key := range []string{"a", "", strings.Repeat("k", 17)} {
		row, e := x.Get(key)
		if e != want || row.Here || len(row.Vals) > 0 {
			t.Errorf("Get(%q) = %v, %d, want %d", key, row, e, want)
		}
		for _, got := range []api.Errno{x.Put(key), x.Put(key, intOf(1)), x.Put(key, api.Value{Kind: 9}), x.Delete(key), x.Upsert(key, "new"), x.Upsert(key, "n +")} {
			if got != want {
				t.Errorf("a change of %q = %d, want %d", key, got, want)
			}
		}
	}
	for _, limit := range []int{-1, 0, 1, math.MaxInt, math.MinInt} {
		if list, e := x.Scan("b", "a", limit); e != want || len(list) > 0 {
			t.Errorf("Scan = %v, %d, want %d", list, e, want)
		}
	}
	if e := x.Commit(); e != want {
		t.Errorf("Commit = %d, want %d", e, want)
	}
	if e := x.Abort(); e != want {
		t.Errorf("Abort = %d, want %d", e, want)
	}
}

// P21.1, P21.2, P21.3, R3: of nil.
func TestNil(t *testing.T) {
	if m, e := txn.New(nil); m != nil || e != api.ErrArg {
		t.Errorf("New(nil) = %v, %d", m, e)
	}
	var m *txn.Manager
	if x, e := m.Begin(); x != nil || e != api.ErrArg {
		t.Errorf("Begin = %v, %d", x, e)
	}
	if m.Open() != 0 || m.Commits() != 0 {
		t.Errorf("Open = %d, Commits = %d", m.Open(), m.Commits())
	}
	everyCall(t, nil, api.ErrArg)
}

// P21.3: a transaction that is over answers ErrDone, ahead of every other error, however it ended, and does nothing; so too without power.
func TestOver(t *testing.T) {
	k, x, u := pairOf(t)
	aborted, silent, refused := k.begin(), k.begin(), k.begin()
	k.change(aborted, "put a {n=9}")
	k.abort(aborted)
	k.row(silent, "a", "{n=1}")
	k.ends(silent, api.OK)
	k.row(refused, "a", "{n=1}")
	k.change(refused, "delete c")
	k.change(x, "put a {n=5}", "put d {n=4}")
	k.ends(x, api.OK)
	k.ends(refused, api.ErrConflict)
	over := []*client{aborted, silent, refused, x}
	for _, dead := range []bool{false, true} {
		if dead {
			k.change(u, "delete a")
			k.d.Arm(0)
			k.ends(u, api.ErrPower)
			over = append(over, u)
		}
		stats := k.d.Stats()
		for _, who := range over {
			everyCall(t, who.x, api.ErrDone)
		}
		k.counts()
		if k.d.Stats() != stats || k.st.Seq() != 2 {
			t.Errorf("the store is asked by who is over: %v, Seq %d", k.d.Stats(), k.st.Seq())
		}
	}
}

// P21.6: what is refused, with its error; and the transaction is as it was.
func TestWrongChanges(t *testing.T) {
	for _, k := range desks(t) {
		for _, full := range []bool{false, true} {
			who := k.begin()
			if full {
				for number := range 8 {
					k.ask(who, changeOf(k.s, api.Change{Kind: api.MDelete, Key: drill.Key(number)}))
				}
			}
			for _, w := range drill.WrongChanges(k.s) {
				c := w.Part
				if c.Kind < api.MPut || c.Kind > api.MUpsert || w.Errno == api.ErrMessage {
					continue // no call of a transaction can say such a change
				}
				if _, e := value.Make(k.s, c.Vals...); c.Kind == api.MPut && w.Errno == api.ErrValue && e == api.OK {
					continue // Put fills up what this one lacks
				}
				if e := change(who.x, c); e != w.Errno {
					t.Fatalf("%.300s = %d, want %d", drill.ShownChange(k.s, c), e, w.Errno)
				}
			}
			k.ask(who, scanOf(k.s, "", "", 100))
			if full {
				for _, c := range []api.Change{{Kind: api.MPut}, {Kind: api.MDelete}, {Kind: api.MUpsert}} {
					if c.Key = "k"; change(who.x, c) != api.ErrBatch {
						t.Errorf("a change of kind %d behind eight is not ErrBatch", c.Kind)
					}
				}
			}
			k.ends(who, api.OK)
			k.isNow()
		}
	}
}

// P21.6: Put fills up with what the zero record has.
func TestPutFillsUp(t *testing.T) {
	for _, k := range desks(t) {
		for _, record := range drill.Records(k.s) {
			who := k.begin()
			for length := range len(record) + 1 {
				k.ask(who, changeOf(k.s, api.Change{Kind: api.MPut, Key: "k", Vals: record[:length]}))
				k.ask(who, getOf(k.s, "k"))
			}
			k.ends(who, api.OK)
			k.isNow()
		}
	}
}

// P21.4, P21.5: what is refused, and what is answered without asking; nothing is read by either, and none but OK reads.
func TestWrongQuestions(t *testing.T) {
	for _, k := range desks(t) {
		who := k.begin()
		stats := k.d.Stats()
		for _, key := range []string{"", strings.Repeat("k", 17), strings.Repeat("\x00", 17), strings.Repeat("k", 1<<20)} {
			k.ask(who, getOf(k.s, key))
		}
		long := strings.Repeat("\xff", 1<<20)
		for _, limit := range []int{-1, math.MinInt, 0} {
			for _, lo := range []string{"", "a", "z", long} {
				k.ask(who, scanOf(k.s, lo, "", limit))
				k.ask(who, scanOf(k.s, lo, "b", limit))
			}
		}
		for _, limit := range []int{1, 100, math.MaxInt} {
			k.ask(who, scanOf(k.s, "b", "b", limit))
			k.ask(who, scanOf(k.s, "b", "a", limit))
			k.ask(who, scanOf(k.s, "b\x00", "b", limit))
			k.ask(who, scanOf(k.s, long, "b", limit))
		}
		if k.d.Stats() != stats {
			t.Error("the disk is asked")
		}
		k.ask(who, changeOf(k.s, api.Change{Kind: api.MDelete, Key: "zz"}))
		other := k.begin()
		for _, key := range []string{"a", "b", "z", "k", drill.Key(1)} {
			k.ask(other, changeOf(k.s, api.Change{Kind: api.MPut, Key: key}))
		}
		k.ends(other, api.OK)
		k.ends(who, api.OK)
	}
}

// P21.5: ends and limits of all sizes.
func TestRangesAndLimits(t *testing.T) {
	for _, k := range desks(t) {
		who, other := k.begin(), k.begin()
		for _, number := range []int{1, 3, 8, 11} {
			k.ask(other, changeOf(k.s, api.Change{Kind: api.MDelete, Key: drill.Key(number)}))
		}
		k.ask(other, changeOf(k.s, api.Change{Kind: api.MPut, Key: drill.Key(9)}))
		k.ends(other, api.OK)
		for _, number := range []int{2, 3, 10} {
			k.ask(who, changeOf(k.s, api.Change{Kind: api.MUpsert, Key: drill.Key(number), Src: "new; n += 1"}))
		}
		k.ask(who, changeOf(k.s, api.Change{Kind: api.MDelete, Key: drill.Key(0)}))
		ends := []string{"", "\x00", "\xff", strings.Repeat("\xff", 40)}
		for number := range 12 {
			ends = append(ends, drill.Key(number), drill.Key(number)+"\x00")
		}
		for _, lo := range ends {
			for _, hi := range ends {
				for _, limit := range []int{1, 2, 5, 7, 8, math.MaxInt - 1, math.MaxInt} {
					k.ask(who, scanOf(k.s, lo, hi, limit))
				}
			}
		}
	}
}
