package server_test

import (
	"testing"

	"arbor/api"
	"arbor/drill"
)

// What is in the chapter's examples.

func exampleDesk(t *testing.T) *desk {
	t.Helper()
	return newDesk(t, drill.SchemaOf("n:int"), drill.Measures()[0], 128)
}

// answers: is a request answered by just what the example says?
func (k *desk) answers(session int, r api.Request, want api.Reply) {
	k.t.Helper()
	r.Id, want.Id = 7, 7
	if got := k.ask(session, r); !k.same(got, want) {
		k.t.Errorf("session %d: %s: %s, want %s", session, k.shown(r), k.shownReply(got), k.shownReply(want))
	}
}

func asks(op int) api.Request            { return api.Request{Op: op} }
func get(key string) api.Request         { return api.Request{Op: api.RGet, Key: key} }
func remove(key string) api.Request      { return api.Request{Op: api.RDelete, Key: key} }
func upsert(key, src string) api.Request { return api.Request{Op: api.RUpsert, Key: key, Src: src} }

func scan(lo, hi string, n int64) api.Request {
	return api.Request{Op: api.RScan, Key: lo, Hi: hi, N: n}
}

func queryOf(lo, hi, text string) api.Request {
	return api.Request{Op: api.RQuery, Key: lo, Hi: hi, Src: text}
}

func (k *desk) put(key, record string) api.Request {
	return api.Request{Op: api.RPut, Key: key, Vals: drill.RowOf(k.Schema, record).Vals}
}

func refused(e api.Errno) api.Reply         { return api.Reply{Err: e} }
func worth(n int64) api.Reply               { return api.Reply{Value: api.Value{Kind: api.Int, N: n}} }
func (k *desk) row(record string) api.Reply { return api.Reply{Row: drill.RowOf(k.Schema, record)} }

func TestExample1(t *testing.T) {
	k := exampleDesk(t)
	for _, want := range []int{0, 1} {
		if number := k.connect(); number != want {
			t.Errorf("Connect = %d, want %d", number, want)
		}
	}
	k.close(0)
	if number := k.connect(); number != 0 {
		t.Errorf("Connect = %d", number)
	}
	for _, session := range []int{5, -1} {
		if e := k.server.Close(session); e != api.ErrSession {
			t.Errorf("Close(%d) = %d", session, e)
		}
	}
	if b, e := k.server.Feed(7, nil); len(b) > 0 || e != api.ErrSession {
		t.Errorf("Feed(7, nothing) = %x, %d", b, e)
	}
}

// The examples 2 to 5, one behind the other.
func TestExamples2To5(t *testing.T) {
	k := exampleDesk(t)
	k.connect()
	k.connect()
	nothing := api.Reply{}
	k.answers(0, k.put("a", "{n=1}"), nothing)
	k.answers(0, get("a"), k.row("{n=1}"))
	k.answers(0, upsert("a", "n += 1"), nothing)
	k.answers(0, asks(api.RSeq), api.Reply{N: 2})
	k.answers(0, get(""), refused(api.ErrKey))
	k.answers(0, upsert("a", "m = 1"), refused(api.ErrField))
	k.answers(0, asks(api.RCommit), refused(api.ErrOrder))

	k.answers(0, asks(api.ROpen), nothing)
	k.answers(0, get("a"), k.row("{n=2}"))
	k.answers(1, k.put("a", "{n=9}"), nothing)
	k.answers(0, k.put("b", "{n=3}"), nothing)
	k.answers(0, get("a"), k.row("{n=2}"))
	k.answers(0, asks(api.RCommit), refused(api.ErrConflict))
	k.answers(0, get("b"), nothing)
	k.answers(0, get("a"), k.row("{n=9}"))

	k.answers(0, asks(api.ROpen), nothing)
	k.answers(0, upsert("a", "n += 1"), nothing)
	k.answers(1, asks(api.ROpen), nothing)
	k.answers(1, upsert("a", "n += 1"), nothing)
	k.answers(1, asks(api.RCommit), nothing)
	k.answers(0, asks(api.RCommit), nothing)
	k.answers(0, get("a"), k.row("{n=11}"))

	k.answers(0, queryOf("", "", "sum n"), worth(11))
	k.answers(0, queryOf("", "", "sum"), refused(api.ErrQuery))
	k.isNow()
}

func TestExample6(t *testing.T) {
	k := exampleDesk(t)
	k.connect()
	k.isNoRequest(0, drill.Turned(k.part(k.put("a", "{n=1}")), 8*17, 1)) // a wrong sum
	k.answers(0, get("a"), api.Reply{})
	k.isNoRequest(0, brokenEnd)
	if b, e := k.server.Feed(0, k.part(get("a"))); e != api.ErrWire || len(b) > 0 {
		t.Errorf("behind it: %s, %d", k.shownBytes(b), e)
	}
	k.close(0)
	if b, e := k.server.Feed(0, nil); e != api.ErrSession || len(b) > 0 {
		t.Errorf("behind Close: %s, %d", k.shownBytes(b), e)
	}
}
