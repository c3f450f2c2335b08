package txn_test

import (
	"slices"
	"strconv"
	"strings"
	"testing"

	"arbor/api"
	"arbor/disk"
	"arbor/drill"
	"arbor/pager"
	"arbor/store"
	"arbor/txn"
	"arbor/value"
)

// What the program says is held against drill's book, call by call.

// call: something that is asked of a transaction: what the program says to it, and what the book says.
type call struct {
	what string
	do   func(x *txn.Txn) string
	told func(x *drill.BookTxn) string
}

func getOf(s api.Schema, key string) call {
	shown := func(row api.Row, e api.Errno) string { return drill.ShownRow(s, row) + " " + number(e) }
	return call{
		what: "Get(" + value.Quote(key) + ")",
		do:   func(x *txn.Txn) string { return shown(x.Get(key)) },
		told: func(x *drill.BookTxn) string { return shown(x.Get(key)) },
	}
}

func scanOf(s api.Schema, lo, hi string, limit int) call {
	shown := func(list []api.Entry, e api.Errno) string { return drill.ShownEntries(s, list) + " " + number(e) }
	return call{
		what: "Scan(" + value.Quote(lo) + ", " + value.Quote(hi) + ", " + strconv.Itoa(limit) + ")",
		do:   func(x *txn.Txn) string { return shown(x.Scan(lo, hi, limit)) },
		told: func(x *drill.BookTxn) string { return shown(x.Scan(lo, hi, limit)) },
	}
}

func changeOf(s api.Schema, c api.Change) call {
	return call{
		what: drill.ShownChange(s, c),
		do:   func(x *txn.Txn) string { return number(change(x, c)) },
		told: func(x *drill.BookTxn) string { return number(x.Change(c)) },
	}
}

// change: by the call for its kind.
func change(x *txn.Txn, c api.Change) api.Errno {
	switch c.Kind {
	case api.MPut:
		return x.Put(c.Key, c.Vals...)
	case api.MDelete:
		return x.Delete(c.Key)
	default:
		return x.Upsert(c.Key, c.Src)
	}
}

func number(e api.Errno) string { return strconv.Itoa(int(e)) }

// desk: a disk, a store on it, a manager, and the book of it.
type desk struct {
	t    *testing.T
	s    api.Schema
	g    api.Geometry
	c    api.Config
	d    *disk.Disk
	st   *store.Store
	m    *txn.Manager
	book *drill.Book
	open []*client
	// What was committed: with changes, in the order of the commits; and without.
	writers, readers []*client
	before           int // commits with changes ahead of these
	conflicts        int
	seq              uint64  // of the store, where the book begins
	least            uint64  // what is durable for certain
	dying            *client // in whose commit the power went
}

// client: a transaction, with what was asked of it and what it said.
type client struct {
	x    *txn.Txn
	book *drill.BookTxn
	asks []call
	said []string
}

func newDesk(t *testing.T, s api.Schema, g api.Geometry, c api.Config) *desk {
	t.Helper()
	d, e := disk.New(pager.Sectors(g), g.Sector)
	if e != api.OK {
		t.Fatalf("a disk for %v: %d", g, e)
	}
	st, e := store.Create(d, g, c, s)
	if e != api.OK {
		t.Fatalf("Create(%v, %v) = %d", g, c, e)
	}
	return deskOver(t, g, c, d, st, map[string]api.Row{})
}

// deskOver: over a store that holds some rows.
func deskOver(t *testing.T, g api.Geometry, c api.Config, d *disk.Disk, st *store.Store, rows map[string]api.Row) *desk {
	t.Helper()
	m, e := txn.New(st)
	if m == nil || e != api.OK {
		t.Fatalf("New = %v, %d", m, e)
	}
	return &desk{t: t, s: st.Schema(), g: g, c: c, d: d, st: st, m: m, book: drill.NewBook(st.Schema(), rows, d.Dead), seq: st.Seq(), least: st.Seq()}
}

func (k *desk) begin() *client {
	k.t.Helper()
	x, e := k.m.Begin()
	if x == nil || e != api.OK {
		k.t.Fatalf("Begin with %d open = %v, %d", len(k.open), x, e)
	}
	who := &client{x: x, book: k.book.Begin()}
	k.open = append(k.open, who)
	return who
}

// ask: does the program say what the book says?
func (k *desk) ask(who *client, c call) {
	k.t.Helper()
	got, want := c.do(who.x), c.told(who.book)
	who.asks, who.said = append(who.asks, c), append(who.said, got)
	if got != want {
		k.t.Fatalf("%v: %s = %s, want %s; it began behind %d of %d commits; asked: %s", k.c, c.what, got, want, who.book.Begun, len(k.book.Named), who.asked())
	}
}

// asked: all that was, in short.
func (who *client) asked() string {
	var list []string
	for i, c := range who.asks {
		list = append(list, c.what+" = "+who.said[i])
	}
	return strings.Join(list, "; ")
}

// change: texts of changes, as drill.ChangeOf takes them.
func (k *desk) change(who *client, texts ...string) {
	k.t.Helper()
	for _, text := range texts {
		k.ask(who, changeOf(k.s, drill.ChangeOf(k.s, text)))
	}
}

// commit: is it answered as the book says? Of a transaction that has no conflict the store has the last word.
func (k *desk) commit(who *client) api.Errno {
	k.t.Helper()
	dead, mode, seq := k.d.Dead(), k.st.Mode(), k.st.Seq()
	e := who.x.Commit()
	k.leaves(who)
	want := api.OK
	switch {
	case len(who.book.Changes) == 0:
	case who.book.MeetsConflict():
		want = api.ErrConflict
	case dead || k.d.Dead():
		want = api.ErrPower
	case mode == api.ModeReadOnly:
		want = api.ErrReadOnly
	case k.st.Mode() == api.ModeReadOnly:
		want = api.ErrFull
	}
	if e != want {
		k.t.Fatalf("%v: Commit = %d, want %d; it began behind %d of %d commits; asked: %s", k.c, e, want, who.book.Begun, len(k.book.Named), who.asked())
	}
	switch {
	case e == api.ErrPower && !dead:
		k.dying = who
	case e == api.ErrConflict:
		k.conflicts++
	case e == api.OK && len(who.book.Changes) == 0:
		k.readers = append(k.readers, who)
	case e == api.OK:
		k.writers = append(k.writers, who)
		who.book.Committed()
		seq++
	}
	if k.st.Seq() != seq {
		k.t.Fatalf("%v: behind Commit = %d Seq is %d, want %d", k.c, e, k.st.Seq(), seq)
	}
	return e
}

func (k *desk) abort(who *client) {
	k.t.Helper()
	if e := who.x.Abort(); e != api.OK {
		k.t.Fatalf("Abort = %d", e)
	}
	k.leaves(who)
}

// durable: a Sync or a Checkpoint of the store.
func (k *desk) durable(call func() api.Errno) {
	k.t.Helper()
	switch e := call(); {
	case e == api.OK && !k.d.Dead():
		k.least = k.st.Seq()
	case e != api.ErrPower || !k.d.Dead():
		k.t.Fatalf("%v: Sync or Checkpoint = %d", k.c, e)
	}
}

func (k *desk) leaves(who *client) {
	who.book.Over = true
	k.open = slices.DeleteFunc(k.open, func(other *client) bool { return other == who })
}

// isNow: does the store hold the map behind all commits, and does the manager count rightly?
func (k *desk) isNow() {
	k.t.Helper()
	want := drill.EntriesOf(k.book.Now(), "", "")
	if got, e := k.st.Scan("", "", len(want)+1); e != api.OK || !drill.SameEntries(got, want) {
		k.t.Fatalf("%v: the store holds %s, %d, want %s", k.c, drill.ShownEntries(k.s, got), e, drill.ShownEntries(k.s, want))
	}
	k.counts()
}

func (k *desk) counts() {
	k.t.Helper()
	if k.m.Open() != len(k.open) || k.m.Commits() != k.before+len(k.writers) {
		k.t.Fatalf("%v: Open = %d, Commits = %d, want %d, %d", k.c, k.m.Open(), k.m.Commits(), len(k.open), k.before+len(k.writers))
	}
}
