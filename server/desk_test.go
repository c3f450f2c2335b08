package server_test

import (
	"bytes"
	"math"
	"slices"
	"strconv"
	"testing"

	"arbor/api"
	"arbor/drill"
	"arbor/query"
	"arbor/server"
	"arbor/value"
	"arbor/wire"
)

// What goes back is held, byte for byte, against the chapter's words told once more: over drill's book of transactions.

// desk: a server over a store on a disk of its own, and the book of it.
type desk struct {
	*drill.Shop
	t      *testing.T
	server *server.Server
	book   *drill.Book
	open   map[int]*drill.BookTxn // by session; nil: it has no open transaction
	seq    uint64
	before uint64         // calls of the store, where the book begins
	least  uint64         // of them are durable for certain
	dying  *drill.BookTxn // in whose commit the power went
}

func newDesk(t *testing.T, s api.Schema, c api.Config, blocks int) *desk {
	t.Helper()
	return deskOver(t, drill.NewShop(s, c, blocks))
}

// deskOver: over a store that holds a shop's rows.
func deskOver(t *testing.T, sh *drill.Shop) *desk {
	t.Helper()
	h, e := server.New(sh.Store)
	if h == nil || e != api.OK {
		t.Fatalf("New = %v, %d", h, e)
	}
	seq := sh.Store.Seq()
	return &desk{Shop: sh, t: t, server: h, book: drill.NewBook(sh.Schema, sh.Rows, sh.Disk.Dead), open: map[int]*drill.BookTxn{}, seq: seq, before: seq, least: seq}
}

// connect: is the number the lowest one that no session has?
func (k *desk) connect() int {
	k.t.Helper()
	want := 0
	for _, is := k.open[want]; is; _, is = k.open[want] {
		want++
	}
	number, e := k.server.Connect()
	if number != want || e != api.OK {
		k.t.Fatalf("Connect with %d sessions = %d, %d, want %d", len(k.open), number, e, want)
	}
	k.open[number] = nil
	return number
}

func (k *desk) close(session int) {
	k.t.Helper()
	if e := k.server.Close(session); e != api.OK {
		k.t.Fatalf("Close(%d) = %d", session, e)
	}
	delete(k.open, session)
}

// numbers: of the sessions that are open, in rising order.
func (k *desk) numbers() []int {
	var list []int
	for number := range api.MaxSessions {
		if _, is := k.open[number]; is {
			list = append(list, number)
		}
	}
	return list
}

// part: a request as bytes.
func (k *desk) part(r api.Request) []byte {
	k.t.Helper()
	b, e := wire.EncodeRequest(k.Schema, r)
	if e != api.OK {
		k.t.Fatalf("EncodeRequest(%s) = %d", k.shown(r), e)
	}
	return b
}

// replyPart: a reply as bytes.
func (k *desk) replyPart(r api.Reply) []byte {
	k.t.Helper()
	b, e := wire.EncodeReply(k.Schema, r)
	if e != api.OK {
		k.t.Fatalf("EncodeReply(%s) = %d", k.shownReply(r), e)
	}
	return b
}

// ask: is a request answered as the book says?
func (k *desk) ask(session int, r api.Request) api.Reply {
	k.t.Helper()
	was := k.Store.Mode()
	got, e := k.server.Feed(session, k.part(r))
	want := k.told(session, r, was)
	if e != api.OK || !bytes.Equal(got, k.replyPart(want)) {
		k.t.Fatalf("%v: session %d: %s: %s, %d, want %s", k.Config, session, k.shown(r), k.shownBytes(got), e, k.shownReply(want))
	}
	return want
}

// told: what the book says to a request; was: the store's mode ahead of it.
func (k *desk) told(session int, r api.Request, was int) api.Reply {
	reply := k.does(session, r, was)
	if reply.Err != api.OK {
		reply = api.Reply{Err: reply.Err}
	}
	reply.Id = r.Id
	return reply
}

func (k *desk) does(session int, r api.Request, was int) (reply api.Reply) {
	x := k.open[session]
	switch ends := r.Op == api.RCommit || r.Op == api.RAbort; {
	case r.Op == api.RSync && k.Disk.Dead():
		reply.Err = api.ErrPower
	case r.Op == api.RSync:
		k.least = k.seq
	case r.Op == api.RSeq:
		reply.N = k.seq
	case ends && x == nil, r.Op == api.ROpen && x != nil:
		reply.Err = api.ErrOrder
	case r.Op == api.ROpen:
		k.open[session] = k.book.Begin()
	case ends:
		k.open[session] = nil
		if r.Op == api.RCommit {
			reply.Err = k.commits(x, was)
		}
	case x != nil:
		reply = k.inside(x, r)
	default:
		x = k.book.Begin()
		if reply = k.inside(x, r); reply.Err == api.OK {
			reply.Err = k.commits(x, was)
		}
	}
	return reply
}

// inside: what a transaction answers.
func (k *desk) inside(x *drill.BookTxn, r api.Request) (reply api.Reply) {
	switch r.Op {
	case api.RGet:
		reply.Row, reply.Err = x.Get(r.Key)
	case api.RScan:
		limit := 100
		if r.N < 100 {
			limit = int(r.N)
		}
		reply.Rows, reply.Err = x.Scan(r.Key, r.Hi, limit)
	case api.RPut:
		reply.Err = x.Change(api.Change{Kind: api.MPut, Key: r.Key, Vals: r.Vals})
	case api.RDelete:
		reply.Err = x.Change(api.Change{Kind: api.MDelete, Key: r.Key})
	case api.RUpsert:
		reply.Err = x.Change(api.Change{Kind: api.MUpsert, Key: r.Key, Src: r.Src})
	case api.RQuery:
		return k.asked(x, r)
	default:
		k.t.Fatalf("the book knows no operation %d", r.Op)
	}
	return reply
}

func (k *desk) asked(x *drill.BookTxn, r api.Request) api.Reply {
	q, e, _ := query.Parse(r.Src)
	if e != api.OK {
		return api.Reply{Err: e}
	}
	if e := query.Check(k.Schema, q); e != api.OK {
		return api.Reply{Err: e}
	}
	list, e := x.Scan(r.Key, r.Hi, math.MaxInt)
	if e != api.OK {
		return api.Reply{Err: e}
	}
	a, e := query.Over(k.Schema, list, q)
	if len(a.Rows) > 100 {
		a.Rows = a.Rows[:100]
	}
	return api.Reply{Err: e, Rows: a.Rows, Value: a.Value}
}

// commits: what a commit answers. Where there is no conflict the store has the last word.
func (k *desk) commits(x *drill.BookTxn, was int) api.Errno {
	switch {
	case len(x.Changes) == 0:
		return api.OK
	case x.MeetsConflict():
		return api.ErrConflict
	case was == api.ModeDead:
		return api.ErrPower
	case k.Disk.Dead():
		k.dying = x
		return api.ErrPower
	case was == api.ModeReadOnly:
		return api.ErrReadOnly
	case k.Store.Mode() == api.ModeReadOnly:
		return api.ErrFull
	}
	x.Committed()
	k.seq++
	return api.OK
}

// isNow: does the store hold the book's map, and just so many calls?
func (k *desk) isNow() {
	k.t.Helper()
	want := drill.EntriesOf(k.book.Now(), "", "")
	if got, e := k.Store.Scan("", "", math.MaxInt); e != api.OK || !drill.SameEntries(got, want) || k.Store.Seq() != k.seq {
		k.t.Fatalf("%v: the store holds %s, %d, Seq %d, want %s, Seq %d", k.Config, drill.ShownEntries(k.Schema, got), e, k.Store.Seq(), drill.ShownEntries(k.Schema, want), k.seq)
	}
}

func (k *desk) shown(r api.Request) string {
	text := "operation " + strconv.Itoa(r.Op) + " " + value.Quote(r.Key)
	switch r.Op {
	case api.RScan:
		text += " to " + value.Quote(r.Hi) + ", at most " + strconv.FormatInt(r.N, 10)
	case api.RPut:
		text += " " + drill.ShownRow(k.Schema, api.Row{Here: true, Vals: r.Vals})
	case api.RUpsert:
		text += " " + r.Src
	case api.RQuery:
		text += " to " + value.Quote(r.Hi) + ": " + r.Src
	}
	return text
}

func (k *desk) shownReply(r api.Reply) string {
	return "Id " + strconv.Itoa(int(r.Id)) + ", Err " + strconv.Itoa(int(r.Err)) + ", " + drill.ShownRow(k.Schema, r.Row) + ", " + strconv.Itoa(len(r.Rows)) + " rows " + drill.ShownEntries(k.Schema, r.Rows[:min(len(r.Rows), 5)]) + ", Value " + strconv.Itoa(r.Value.Kind) + " " + strconv.FormatInt(r.Value.N, 10) + " " + value.Quote(r.Value.S) + ", N " + strconv.FormatUint(r.N, 10)
}

// same: are two replies alike?
func (k *desk) same(a, b api.Reply) bool {
	k.t.Helper()
	return bytes.Equal(k.replyPart(a), k.replyPart(b))
}

// shownBytes: of replies one behind the other.
func (k *desk) shownBytes(b []byte) string {
	parts, e := wire.NewSplitter().Feed(b)
	text := ""
	for _, part := range parts {
		r, e := wire.DecodeReply(k.Schema, part)
		text += k.shownReply(r) + " (" + strconv.Itoa(int(e)) + "); "
	}
	return text + strconv.Itoa(len(parts)) + " parts, " + strconv.Itoa(int(e))
}

// joined: some bytes, one behind the other.
func joined(parts ...[]byte) []byte { return slices.Concat(parts...) }

// noRequest: what goes back to a part that is none, and to a broken stream.
func (k *desk) noRequest() []byte { return k.replyPart(api.Reply{Err: api.ErrWire}) }

// brokenEnd: of a stream.
var brokenEnd = []byte{5, 0, 0, 0}
