package drill_test

import (
	"math"
	"strconv"
	"strings"
	"testing"

	"arbor/api"
	"arbor/drill"
)

// What chapter 21 has as examples, told by the book.

// bookOfTwo: the examples' map, and two transactions that are begun.
func bookOfTwo() (b *drill.Book, x, u *drill.BookTxn) {
	s := drill.SchemaOf("n:int,tag:bytes?")
	b = drill.NewBook(s, map[string]api.Row{"a": drill.RowOf(s, "{n=1}"), "c": drill.RowOf(s, "{n=3}")}, func() bool { return false })
	return b, b.Begin(), b.Begin()
}

// changes: are all of these taken?
func changes(t *testing.T, x *drill.BookTxn, texts ...string) {
	t.Helper()
	for _, text := range texts {
		if e := x.Change(drill.ChangeOf(x.Of.Schema, text)); e != api.OK {
			t.Errorf("%s = %d", text, e)
		}
	}
}

// rowIs: does a transaction see that record, or "none"?
func rowIs(t *testing.T, x *drill.BookTxn, key, want string) {
	t.Helper()
	if row, e := x.Get(key); e != api.OK || !drill.SameRow(row, drill.RowOf(x.Of.Schema, want)) {
		t.Errorf("Get(%q) = %s, %d, want %s", key, drill.ShownRow(x.Of.Schema, row), e, want)
	}
}

// keysAre: does a transaction see just these?
func keysAre(t *testing.T, x *drill.BookTxn, lo, hi string, limit int, want string) {
	t.Helper()
	list, e := x.Scan(lo, hi, limit)
	got := ""
	for _, entry := range list {
		got += entry.Key + " "
	}
	if e != api.OK || got != want {
		t.Errorf("Scan(%q, %q, %d) = %s, %d, want %s", lo, hi, limit, got, e, want)
	}
}

// conflict: does it meet one, as it should? If not, it is committed.
func conflict(t *testing.T, x *drill.BookTxn, want bool) {
	t.Helper()
	if x.MeetsConflict() != want {
		t.Errorf("begun behind %d of %v, it meets a conflict: %v", x.Begun, x.Of.Named, !want)
	}
	if !want {
		x.Committed()
	}
}

func TestBookOfExamples(t *testing.T) {
	b, x, u := bookOfTwo()
	changes(t, x, "put b {n=2}")
	keysAre(t, x, "", "", 9, "a b c ")
	keysAre(t, u, "", "", 9, "a c ")
	conflict(t, x, false)
	rowIs(t, u, "b", "none")
	rowIs(t, b.Begin(), "b", "{n=2}")

	_, x, u = bookOfTwo()
	rowIs(t, x, "a", "{n=1}")
	changes(t, u, "upsert a n += 1")
	conflict(t, u, false)
	rowIs(t, x, "a", "{n=1}")
	changes(t, x, "put c {n=9}")
	conflict(t, x, true)

	b, x, u = bookOfTwo()
	changes(t, x, "upsert a n += 1")
	changes(t, u, "upsert a n += 1")
	conflict(t, x, false)
	conflict(t, u, false)
	if drill.ShownRow(b.Schema, b.Now()["a"]) != "{n=3}" || len(b.Past) != 3 || len(b.Named) != 2 {
		t.Errorf("behind two commits of %d and %d: %s", len(b.Past), len(b.Named), drill.ShownRow(b.Schema, b.Now()["a"]))
	}

	_, x, u = bookOfTwo()
	changes(t, x, "upsert a n += 1")
	rowIs(t, x, "a", "{n=2}")
	changes(t, u, "upsert a n += 1")
	conflict(t, u, false)
	conflict(t, x, true)

	_, x, u = bookOfTwo()
	changes(t, x, "put a {n=7}")
	rowIs(t, x, "a", "{n=7}")
	changes(t, u, "delete a")
	conflict(t, u, false)
	conflict(t, x, false)

	_, x, u = bookOfTwo()
	keysAre(t, x, "a", "c", 9, "a ")
	changes(t, u, "put bb {n=1}")
	conflict(t, u, false)
	conflict(t, x, true)

	_, x, u = bookOfTwo()
	keysAre(t, x, "", "", 1, "a ")
	changes(t, u, "put b {n=1}")
	conflict(t, u, false)
	conflict(t, x, false)
}

func TestBookThatRefuses(t *testing.T) {
	b, x, u := bookOfTwo()
	s, long := b.Schema, strings.Repeat("k", 17)
	dead := false
	b.Dead = func() bool { return dead }
	for i := range 8 {
		changes(t, x, "upsert k"+strconv.Itoa(i%3)+" new")
	}
	changes(t, u, "put c {n=4}")
	get := func(x *drill.BookTxn, key string, want api.Errno) {
		t.Helper()
		if row, e := x.Get(key); e != want || row.Here && e != api.OK {
			t.Errorf("Get(%q) = %s, %d, want %d", key, drill.ShownRow(s, row), e, want)
		}
	}
	scan := func(x *drill.BookTxn, lo, hi string, limit int, want api.Errno) {
		t.Helper()
		if list, e := x.Scan(lo, hi, limit); e != want || len(list) > 0 {
			t.Errorf("Scan(%q, %q, %d) = %s, %d, want %d", lo, hi, limit, drill.ShownEntries(s, list), e, want)
		}
	}
	change := func(x *drill.BookTxn, c api.Change, want api.Errno) {
		t.Helper()
		if e := x.Change(c); e != want {
			t.Errorf("%s = %d, want %d", drill.ShownChange(s, c), e, want)
		}
	}
	change(x, api.Change{Kind: api.MUpsert, Key: "x", Src: "n = tag"}, api.ErrType)
	change(x, api.Change{Kind: api.MPut, Key: "x", Vals: []api.Value{{Kind: api.Bool}}}, api.ErrValue)
	change(x, api.Change{Kind: api.MDelete, Key: long}, api.ErrKey)
	change(x, api.Change{Kind: api.MDelete, Key: "x"}, api.ErrBatch)
	get(x, "", api.ErrKey)
	get(x, long, api.ErrKey)
	scan(x, "", "", -1, api.ErrArg)
	scan(x, "", "", math.MinInt, api.ErrArg)
	dead = true
	get(x, long, api.ErrKey)
	get(x, "a", api.ErrPower)
	get(u, "c", api.OK)
	scan(u, "c", "d", 1, api.ErrPower)
	scan(u, "c", "c", 1, api.OK)
	scan(u, "", "", 0, api.OK)
	if len(x.Looks) > 0 || len(u.Looks) > 0 || len(x.Changes) != 8 {
		t.Errorf("%v and %v have been read, %d changes taken", x.Looks, u.Looks, len(x.Changes))
	}
	x.Over = true
	get(x, "", api.ErrDone)
	scan(x, "", "", -1, api.ErrDone)
	change(x, api.Change{Kind: api.MDelete}, api.ErrDone)
}
