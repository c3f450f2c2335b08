package server_test

import (
	"math"
	"slices"
	"strconv"
	"testing"

	"arbor/api"
	"arbor/drill"
	"arbor/server"
)

// P25.1, R3: New, and a server that is nil.
func TestNil(t *testing.T) {
	if h, e := server.New(nil); h != nil || e != api.ErrArg {
		t.Errorf("New(nil) = %v, %d", h, e)
	}
	var h *server.Server
	for _, session := range []int{0, -1, 16} {
		for _, b := range [][]byte{nil, {1}, brokenEnd} {
			if back, e := h.Feed(session, b); len(back) > 0 || e != api.ErrArg {
				t.Errorf("Feed = %x, %d", back, e)
			}
			if back, e := h.FeedAll(map[int][]byte{session: b}); len(back) > 0 || e != api.ErrArg {
				t.Errorf("FeedAll = %v, %d", back, e)
			}
		}
		if e := h.Close(session); e != api.ErrArg {
			t.Errorf("Close = %d", e)
		}
	}
	if number, e := h.Connect(); number != 0 || e != api.ErrArg {
		t.Errorf("Connect = %d, %d", number, e)
	}
	if back, e := h.FeedAll(nil); len(back) > 0 || e != api.ErrArg {
		t.Errorf("FeedAll(nil) = %v, %d", back, e)
	}
}

// P25.1: a new server has no sessions, whatever its store is; and to make one, to connect and to close ask nothing of the disk.
func TestNewServers(t *testing.T) {
	k := exampleDesk(t)
	for _, dead := range []bool{false, true} {
		if dead {
			drill.Kill(k.Disk)
		}
		stats := k.Disk.Stats()
		h, e := server.New(k.Store)
		if h == nil || e != api.OK {
			t.Fatalf("New = %v, %d", h, e)
		}
		wantNone(t, h, 0)
		if number, e := h.Connect(); number != 0 || e != api.OK {
			t.Errorf("Connect = %d, %d", number, e)
		}
		if e := h.Close(0); e != api.OK {
			t.Errorf("Close = %d", e)
		}
		if k.Disk.Stats() != stats {
			t.Errorf("the disk was asked: %v, was %v", k.Disk.Stats(), stats)
		}
	}
}

// wantNone: no session has that number.
func wantNone(t *testing.T, h *server.Server, session int) {
	t.Helper()
	for _, b := range [][]byte{nil, {1}, brokenEnd} {
		if back, e := h.Feed(session, b); len(back) > 0 || e != api.ErrSession {
			t.Errorf("Feed(%d, %x) = %x, %d", session, b, back, e)
		}
		if back, e := h.FeedAll(map[int][]byte{session: b}); len(back) > 0 || e != api.ErrSession {
			t.Errorf("FeedAll of %d = %v, %d", session, back, e)
		}
	}
	if e := h.Close(session); e != api.ErrSession {
		t.Errorf("Close(%d) = %d", session, e)
	}
}

// P25.2, P25.3: sixteen sessions at one time, the lowest number first; and numbers of no session.
func TestNumbersOfSessions(t *testing.T) {
	k := exampleDesk(t)
	wrong := []int{-1, 16, 17, 1 << 32, math.MaxInt, math.MinInt}
	for range api.MaxSessions {
		for _, session := range append(wrong, len(k.open), 15) {
			wantNone(t, k.server, session)
		}
		k.connect()
	}
	for round := range 50 {
		for range 2 {
			if number, e := k.server.Connect(); number != 0 || e != api.ErrOpenMany {
				t.Fatalf("Connect with all sessions open = %d, %d", number, e)
			}
		}
		for _, session := range wrong {
			wantNone(t, k.server, session)
		}
		var closed []int
		for i := range 1 + round%5 {
			session := (round*7 + i*3) % api.MaxSessions
			k.close(session)
			wantNone(t, k.server, session)
			closed = append(closed, session)
		}
		slices.Sort(closed)
		for _, session := range closed {
			if number := k.connect(); number != session {
				t.Errorf("Connect = %d, want %d", number, session)
			}
		}
	}
	for session := range api.MaxSessions {
		k.answers(session, asks(api.RSeq), api.Reply{})
	}
}

// P25.2: any sessions come and go.
func TestSessionsComeAndGo(t *testing.T) {
	numbers := drill.Numbers(811)
	k := exampleDesk(t)
	for range 2000 {
		switch list := k.numbers(); {
		case len(list) == 0 || numbers.Below(5) < 3 && len(list) < api.MaxSessions:
			k.connect()
		default:
			k.close(drill.Pick(&numbers, list))
		}
		if session := numbers.Below(api.MaxSessions); !slices.Contains(k.numbers(), session) {
			wantNone(t, k.server, session)
		}
	}
}

// P25.3: a later session of that number knows nothing of the one that ended: neither its transaction, nor bytes of a part that is not whole, nor that it was broken.
func TestALaterSession(t *testing.T) {
	k := exampleDesk(t)
	k.connect()
	k.connect()
	whole := k.part(get("a"))
	for _, left := range [][]byte{nil, {1}, whole[:3], whole[:4], whole[:len(whole)-1], brokenEnd, joined(brokenEnd, whole)} {
		k.ask(0, asks(api.ROpen))
		k.ask(0, k.put("a", "{n=5}"))
		k.ask(0, queryOf("", "", "count"))
		if _, e := k.server.Feed(0, left); e != api.OK {
			t.Fatalf("Feed(%x) = %d", left, e)
		}
		k.close(0)
		k.connect()
		k.answers(0, get("a"), api.Reply{})
		k.answers(0, asks(api.RCommit), refused(api.ErrOrder))
		k.answers(0, asks(api.RAbort), refused(api.ErrOrder))
		k.answers(0, asks(api.ROpen), api.Reply{})
		k.answers(0, asks(api.RCommit), api.Reply{})
	}
	k.answers(1, asks(api.RSeq), api.Reply{})
	k.isNow()
}

// P25.3 and a broken stream: what was given up makes no conflict, and is nobody's; the sessions that go on are not touched.
func TestWhatIsGivenUp(t *testing.T) {
	k := exampleDesk(t)
	for range 3 {
		k.connect()
	}
	k.ask(0, k.put("a", "{n=1}"))
	for _, session := range []int{0, 1, 2} {
		k.ask(session, asks(api.ROpen))
		k.ask(session, get("a"))
		k.ask(session, upsert("a", "n += 1"))
	}
	k.close(0)
	k.isNoRequest(1, brokenEnd)
	k.answers(2, asks(api.RCommit), api.Reply{})
	k.answers(2, get("a"), k.row("{n=2}"))
	k.isNow()
}

// Whatever ends a transaction, and whatever a request without one is answered: none is left open, of which a manager has 64 at most.
func TestNoTransactionIsLeftOpen(t *testing.T) {
	k := exampleDesk(t)
	k.connect()
	k.connect()
	k.ask(0, k.put("a", "{n=1}"))
	for round := range 3 * api.MaxOpen {
		k.ask(0, []api.Request{get(""), scan("", "", -1), k.put("", "{n=1}"), upsert("a", "x = 1"), upsert("a", "n +"), remove(""), queryOf("", "", "sum"), queryOf("", "", "sum x"), get("a"), scan("", "", 9), queryOf("", "", "count")}[round%11])
		k.ask(0, k.put("b"+strconv.Itoa(round%3), "{n=2}"))
		session := k.connect()
		k.ask(session, asks(api.ROpen))
		k.ask(session, get("a"))
		switch round % 4 {
		case 0:
			k.ask(session, asks(api.RAbort))
		case 1:
			k.ask(session, upsert("a", "n += 1"))
			k.ask(1, upsert("a", "n += 1"))
			k.answers(session, asks(api.RCommit), refused(api.ErrConflict))
		case 2:
			k.server.Feed(session, brokenEnd)
		}
		k.close(session)
	}
	for len(k.open) < api.MaxSessions {
		k.connect()
	}
	for session := range api.MaxSessions {
		k.answers(session, asks(api.ROpen), api.Reply{})
	}
	k.isNow()
}
