package txn_test

import (
	"strconv"
	"testing"

	"arbor/api"
	"arbor/drill"
	"arbor/txn"
)

// What is in the chapter's examples.

const exampleText = "n:int,tag:bytes?"

// pairOf: the examples' store, and the two transactions that are begun.
func pairOf(t *testing.T) (k *desk, x, u *client) {
	t.Helper()
	c := drill.Measures()[0]
	k = newDesk(t, drill.SchemaOf(exampleText), drill.GeometryOf(c, 128), c)
	first := k.begin()
	k.change(first, "put a {n=1}", "put c {n=3}")
	k.commit(first)
	return k, k.begin(), k.begin()
}

// row: a Get answers the record of a text, or "none".
func (k *desk) row(who *client, key, want string) {
	k.t.Helper()
	k.ask(who, getOf(k.s, key))
	row, e := who.x.Get(key)
	if wanted := drill.RowOf(k.s, want); e != api.OK || !drill.SameRow(row, wanted) {
		k.t.Errorf("Get(%q) = %s, %d, want %s", key, drill.ShownRow(k.s, row), e, want)
	}
}

// keys: a Scan answers just entries of these.
func (k *desk) keys(who *client, lo, hi string, limit int, want string) {
	k.t.Helper()
	k.ask(who, scanOf(k.s, lo, hi, limit))
	list, e := who.x.Scan(lo, hi, limit)
	got := ""
	for _, entry := range list {
		got += entry.Key + " "
	}
	if e != api.OK || got != want {
		k.t.Errorf("Scan(%q, %q, %d) = %s, %d, want %s", lo, hi, limit, got, e, want)
	}
}

// ends: a Commit, and what it is to answer.
func (k *desk) ends(who *client, want api.Errno) {
	k.t.Helper()
	if e := k.commit(who); e != want {
		k.t.Errorf("Commit = %d, want %d", e, want)
	}
}

// holds: what the store has of a key.
func (k *desk) holds(key, want string) {
	k.t.Helper()
	if row, e := k.st.Get(key); e != api.OK || !drill.SameRow(row, drill.RowOf(k.s, want)) {
		k.t.Errorf("the store has of %q %s, %d, want %s", key, drill.ShownRow(k.s, row), e, want)
	}
}

func TestExample1(t *testing.T) {
	k, x, u := pairOf(t)
	k.change(x, "put b {n=2}")
	k.keys(x, "", "", 9, "a b c ")
	k.keys(u, "", "", 9, "a c ")
	k.ends(x, api.OK)
	k.row(u, "b", "none")
	k.ends(u, api.OK)
	k.isNow()
}

func TestExample2(t *testing.T) {
	k, x, u := pairOf(t)
	k.row(x, "a", "{n=1}")
	k.change(u, "upsert a n += 1")
	k.ends(u, api.OK)
	k.row(x, "a", "{n=1}")
	k.change(x, "put c {n=9}")
	k.ends(x, api.ErrConflict)
	k.holds("c", "{n=3}")
	k.holds("a", "{n=2}")
	if e := x.x.Commit(); e != api.ErrDone {
		t.Errorf("Commit once more = %d", e)
	}
	k.isNow()
}

func TestExample3(t *testing.T) {
	k, x, u := pairOf(t)
	k.change(x, "upsert a n += 1")
	k.change(u, "upsert a n += 1")
	k.ends(x, api.OK)
	k.ends(u, api.OK)
	k.holds("a", "{n=3}")

	k, x, u = pairOf(t)
	k.change(x, "upsert a n += 1")
	k.row(x, "a", "{n=2}")
	k.change(u, "upsert a n += 1")
	k.ends(u, api.OK)
	k.ends(x, api.ErrConflict)
	k.holds("a", "{n=2}")
}

func TestExample4(t *testing.T) {
	k, x, u := pairOf(t)
	k.change(x, "put a {n=7}")
	k.row(x, "a", "{n=7}")
	k.change(u, "delete a")
	k.ends(u, api.OK)
	k.ends(x, api.OK)
	k.holds("a", "{n=7}")
}

func TestExample5(t *testing.T) {
	k, x, u := pairOf(t)
	k.keys(x, "a", "c", 9, "a ")
	k.change(u, "put bb {n=1}")
	k.ends(u, api.OK)
	k.change(x, "delete c")
	k.ends(x, api.ErrConflict)
	k.holds("c", "{n=3}")
}

func TestExample6(t *testing.T) {
	k, x, u := pairOf(t)
	k.keys(x, "", "", 1, "a ")
	k.change(u, "put b {n=1}")
	k.ends(u, api.OK)
	k.change(x, "put x {n=1}")
	k.ends(x, api.OK)
	k.isNow()
}

func TestExample7(t *testing.T) {
	k, x, _ := pairOf(t)
	want := func(what string, got, want api.Errno) {
		t.Helper()
		if got != want {
			t.Errorf("%s = %d, want %d", what, got, want)
		}
	}
	want("Put without a key", x.x.Put("", intOf(1)), api.ErrKey)
	want("Put of a bool", x.x.Put("x", api.Value{Kind: api.Bool, N: 1}), api.ErrValue)
	want("Upsert", x.x.Upsert("x", "n = tag"), api.ErrType)
	for i := range 8 {
		k.change(x, "put k"+strconv.Itoa(i)+" {n=1}")
	}
	want("one more", x.x.Put("k9", intOf(1)), api.ErrBatch)
	want("one more", x.x.Delete("a"), api.ErrBatch)
	want("one more", x.x.Upsert("a", "n += 1"), api.ErrBatch)
	want("an ill-typed one more", x.x.Upsert("x", "n = tag"), api.ErrType)
	k.ends(x, api.OK)
	k.isNow()
}

func TestExample8(t *testing.T) {
	c := drill.Measures()[0]
	k := newDesk(t, drill.SchemaOf(exampleText), drill.GeometryOf(c, 128), c)
	for range 64 {
		k.begin()
	}
	for range 2 {
		if x, e := k.m.Begin(); x != nil || e != api.ErrOpenMany {
			t.Errorf("one more Begin = %v, %d", x, e)
		}
	}
	k.abort(k.open[17])
	k.begin()
	k.counts()
	if x, e := k.m.Begin(); x != nil || e != api.ErrOpenMany {
		t.Errorf("one more Begin = %v, %d", x, e)
	}
	k.commit(k.open[0]) // a Commit makes room, too
	k.begin()
	k.counts()
	// Of another manager they are not.
	if other, e := txn.New(k.st); e != api.OK || other.Open() != 0 {
		t.Errorf("New = %v, %d", other, e)
	} else if x, e := other.Begin(); x == nil || e != api.OK {
		t.Errorf("Begin = %v, %d", x, e)
	}
}

func intOf(n int64) api.Value { return api.Value{Kind: api.Int, N: n} }
