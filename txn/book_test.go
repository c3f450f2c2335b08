package txn_test

import (
	"slices"
	"strconv"
	"strings"
	"testing"

	"arbor/api"
	"arbor/disk"
	"arbor/drill"
	"arbor/lower"
	"arbor/pager"
	"arbor/store"
	"arbor/txn"
	"arbor/value"
)

// The book: the chapter's words told once more, without haste: the whole map behind each commit, and of each transaction all that it has looked at.

type book struct {
	s     api.Schema
	past  []map[string]api.Row // behind the first 0, 1, 2 .. commits, by the keys that were named
	named [][]string           // the keys that each of these commits named
	dead  func() bool
}

// bookTxn: a transaction, as the book has it.
type bookTxn struct {
	of      *book
	begun   int
	over    bool
	changes []api.Change
	looks   []look
}

// look: what a Get or a Scan that was answered with OK looked at: the keys from lo on, below hi or, if it is bounded, up to last; those that were settled aside.
type look struct {
	lo, hi, last string
	bounded      bool
	settled      []string
}

func (b *book) begin() *bookTxn {
	return &bookTxn{of: b, begun: len(b.past) - 1}
}

func (b *book) now() map[string]api.Row {
	return b.past[len(b.past)-1]
}

// sees: the map as it was at Begin, behind its own changes.
func (x *bookTxn) sees() map[string]api.Row {
	return drill.PlayChanges(x.of.s, x.of.past[x.begun], x.changes...)
}

func (x *bookTxn) settled() []string {
	var keys []string
	for _, c := range x.changes {
		if c.Kind == api.MPut || c.Kind == api.MDelete {
			keys = append(keys, c.Key)
		}
	}
	return keys
}

func (x *bookTxn) hasRead(key string) bool {
	return slices.ContainsFunc(x.looks, func(l look) bool {
		if slices.Contains(l.settled, key) || key < l.lo {
			return false
		}
		if l.bounded && key > l.last {
			return false
		}
		return l.hi == "" || key < l.hi
	})
}

func (x *bookTxn) meetsConflict() bool {
	return slices.ContainsFunc(slices.Concat(x.of.named[x.begun:]...), x.hasRead)
}

func badKey(key string) bool { return len(key) < 1 || len(key) > 16 }

func (x *bookTxn) get(key string) (api.Row, api.Errno) {
	if x.over {
		return api.Row{}, api.ErrDone
	}
	if badKey(key) {
		return api.Row{}, api.ErrKey
	}
	if !slices.Contains(x.settled(), key) {
		if x.of.dead() {
			return api.Row{}, api.ErrPower
		}
		x.looks = append(x.looks, look{lo: key, last: key, bounded: true})
	}
	return x.sees()[key], api.OK
}

func (x *bookTxn) scan(lo, hi string, limit int) ([]api.Entry, api.Errno) {
	if x.over {
		return nil, api.ErrDone
	}
	if limit < 0 {
		return nil, api.ErrArg
	}
	if limit == 0 || hi != "" && !(hi > lo) {
		return nil, api.OK
	}
	if x.of.dead() {
		return nil, api.ErrPower
	}
	list := drill.EntriesOf(x.sees(), lo, hi)
	l := look{lo: lo, hi: hi, settled: x.settled()}
	if len(list) >= limit {
		list = list[:limit]
		l.bounded, l.last = true, list[limit-1].Key
	}
	x.looks = append(x.looks, l)
	return list, api.OK
}

// change: a put's values are those that Put is given, not all of a record yet.
func (x *bookTxn) change(c api.Change) api.Errno {
	if x.over {
		return api.ErrDone
	}
	if badKey(c.Key) {
		return api.ErrKey
	}
	switch c.Kind {
	case api.MPut:
		record, e := value.Make(x.of.s, c.Vals...)
		if e != api.OK {
			return api.ErrValue
		}
		c.Vals = record
	case api.MUpsert:
		if _, e, _ := lower.Compile(x.of.s, c.Src); e != api.OK {
			return e
		}
	}
	if len(x.changes) >= 8 {
		return api.ErrBatch
	}
	x.changes = append(x.changes, c)
	return api.OK
}

// committed: the store has taken its changes.
func (x *bookTxn) committed() {
	var keys []string
	for _, c := range x.changes {
		keys = append(keys, c.Key)
	}
	x.of.past = append(x.of.past, drill.PlayChanges(x.of.s, x.of.now(), x.changes...))
	x.of.named = append(x.of.named, keys)
}

// call: something that is asked of a transaction: what the program says to it, and what the book says.
type call struct {
	what string
	do   func(x *txn.Txn) string
	told func(x *bookTxn) string
}

func getOf(s api.Schema, key string) call {
	shown := func(row api.Row, e api.Errno) string { return drill.ShownRow(s, row) + " " + number(e) }
	return call{
		what: "Get(" + value.Quote(key) + ")",
		do:   func(x *txn.Txn) string { return shown(x.Get(key)) },
		told: func(x *bookTxn) string { return shown(x.get(key)) },
	}
}

func scanOf(s api.Schema, lo, hi string, limit int) call {
	shown := func(list []api.Entry, e api.Errno) string { return drill.ShownEntries(s, list) + " " + number(e) }
	return call{
		what: "Scan(" + value.Quote(lo) + ", " + value.Quote(hi) + ", " + strconv.Itoa(limit) + ")",
		do:   func(x *txn.Txn) string { return shown(x.Scan(lo, hi, limit)) },
		told: func(x *bookTxn) string { return shown(x.scan(lo, hi, limit)) },
	}
}

func changeOf(s api.Schema, c api.Change) call {
	return call{
		what: drill.ShownChange(s, c),
		do:   func(x *txn.Txn) string { return number(change(x, c)) },
		told: func(x *bookTxn) string { return number(x.change(c)) },
	}
}

// change: by the call for its kind.
func change(x *txn.Txn, c api.Change) api.Errno {
	switch c.Kind {
	case api.MPut:
		return x.Put(c.Key, c.Vals...)
	case api.MDelete:
		return x.Delete(c.Key)
	default:
		return x.Upsert(c.Key, c.Src)
	}
}

func number(e api.Errno) string { return strconv.Itoa(int(e)) }

// desk: a disk, a store on it, a manager, and the book of it.
type desk struct {
	t    *testing.T
	s    api.Schema
	g    api.Geometry
	c    api.Config
	d    *disk.Disk
	st   *store.Store
	m    *txn.Manager
	book *book
	open []*client
	// What was committed: with changes, in the order of the commits; and without.
	writers, readers []*client
	before           int // commits with changes ahead of these
	conflicts        int
	seq              uint64  // of the store, where the book begins
	least            uint64  // what is durable for certain
	dying            *client // in whose commit the power went
}

// client: a transaction, with what was asked of it and what it said.
type client struct {
	x    *txn.Txn
	book *bookTxn
	asks []call
	said []string
}

func newDesk(t *testing.T, s api.Schema, g api.Geometry, c api.Config) *desk {
	t.Helper()
	d, e := disk.New(pager.Sectors(g), g.Sector)
	if e != api.OK {
		t.Fatalf("a disk for %v: %d", g, e)
	}
	st, e := store.Create(d, g, c, s)
	if e != api.OK {
		t.Fatalf("Create(%v, %v) = %d", g, c, e)
	}
	return deskOver(t, g, c, d, st, map[string]api.Row{})
}

// deskOver: over a store that holds some rows.
func deskOver(t *testing.T, g api.Geometry, c api.Config, d *disk.Disk, st *store.Store, rows map[string]api.Row) *desk {
	t.Helper()
	m, e := txn.New(st)
	if m == nil || e != api.OK {
		t.Fatalf("New = %v, %d", m, e)
	}
	b := &book{s: st.Schema(), past: []map[string]api.Row{rows}, dead: d.Dead}
	return &desk{t: t, s: st.Schema(), g: g, c: c, d: d, st: st, m: m, book: b, seq: st.Seq(), least: st.Seq()}
}

func (k *desk) begin() *client {
	k.t.Helper()
	x, e := k.m.Begin()
	if x == nil || e != api.OK {
		k.t.Fatalf("Begin with %d open = %v, %d", len(k.open), x, e)
	}
	who := &client{x: x, book: k.book.begin()}
	k.open = append(k.open, who)
	return who
}

// ask: does the program say what the book says?
func (k *desk) ask(who *client, c call) {
	k.t.Helper()
	got, want := c.do(who.x), c.told(who.book)
	who.asks, who.said = append(who.asks, c), append(who.said, got)
	if got != want {
		k.t.Fatalf("%v: %s = %s, want %s; it began behind %d of %d commits; asked: %s", k.c, c.what, got, want, who.book.begun, len(k.book.named), who.asked())
	}
}

// asked: all that was, in short.
func (who *client) asked() string {
	var list []string
	for i, c := range who.asks {
		list = append(list, c.what+" = "+who.said[i])
	}
	return strings.Join(list, "; ")
}

// change: texts of changes, as drill.ChangeOf takes them.
func (k *desk) change(who *client, texts ...string) {
	k.t.Helper()
	for _, text := range texts {
		k.ask(who, changeOf(k.s, drill.ChangeOf(k.s, text)))
	}
}

// commit: is it answered as the book says? Of a transaction that has no conflict the store has the last word.
func (k *desk) commit(who *client) api.Errno {
	k.t.Helper()
	dead, mode, seq := k.d.Dead(), k.st.Mode(), k.st.Seq()
	e := who.x.Commit()
	k.leaves(who)
	want := api.OK
	switch {
	case len(who.book.changes) == 0:
	case who.book.meetsConflict():
		want = api.ErrConflict
	case dead || k.d.Dead():
		want = api.ErrPower
	case mode == api.ModeReadOnly:
		want = api.ErrReadOnly
	case k.st.Mode() == api.ModeReadOnly:
		want = api.ErrFull
	}
	if e != want {
		k.t.Fatalf("%v: Commit = %d, want %d; it began behind %d of %d commits; asked: %s", k.c, e, want, who.book.begun, len(k.book.named), who.asked())
	}
	switch {
	case e == api.ErrPower && !dead:
		k.dying = who
	case e == api.ErrConflict:
		k.conflicts++
	case e == api.OK && len(who.book.changes) == 0:
		k.readers = append(k.readers, who)
	case e == api.OK:
		k.writers = append(k.writers, who)
		who.book.committed()
		seq++
	}
	if k.st.Seq() != seq {
		k.t.Fatalf("%v: behind Commit = %d Seq is %d, want %d", k.c, e, k.st.Seq(), seq)
	}
	return e
}

func (k *desk) abort(who *client) {
	k.t.Helper()
	if e := who.x.Abort(); e != api.OK {
		k.t.Fatalf("Abort = %d", e)
	}
	k.leaves(who)
}

// durable: a Sync or a Checkpoint of the store.
func (k *desk) durable(call func() api.Errno) {
	k.t.Helper()
	switch e := call(); {
	case e == api.OK && !k.d.Dead():
		k.least = k.st.Seq()
	case e != api.ErrPower || !k.d.Dead():
		k.t.Fatalf("%v: Sync or Checkpoint = %d", k.c, e)
	}
}

func (k *desk) leaves(who *client) {
	who.book.over = true
	k.open = slices.DeleteFunc(k.open, func(other *client) bool { return other == who })
}

// isNow: does the store hold the map behind all commits, and does the manager count rightly?
func (k *desk) isNow() {
	k.t.Helper()
	want := drill.EntriesOf(k.book.now(), "", "")
	if got, e := k.st.Scan("", "", len(want)+1); e != api.OK || !drill.SameEntries(got, want) {
		k.t.Fatalf("%v: the store holds %s, %d, want %s", k.c, drill.ShownEntries(k.s, got), e, drill.ShownEntries(k.s, want))
	}
	k.counts()
}

func (k *desk) counts() {
	k.t.Helper()
	if k.m.Open() != len(k.open) || k.m.Commits() != k.before+len(k.writers) {
		k.t.Fatalf("%v: Open = %d, Commits = %d, want %d, %d", k.c, k.m.Open(), k.m.Commits(), len(k.open), k.before+len(k.writers))
	}
}
