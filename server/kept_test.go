package server

import (
	"testing"

	"arbor/api"
	"arbor/drill"
	"arbor/wire"
)

// What is kept is no more than the sessions that are open need: looked at from inside, for no answer tells it.
func TestWhatIsKept(t *testing.T) {
	numbers := drill.Numbers(851)
	sh := drill.NewShop(drill.SchemaOf("n:int"), drill.Measures()[0], 200)
	h, _ := New(sh.Store)
	open := map[int]bool{} // by session: has it an open transaction?
	part := func(r api.Request) []byte {
		b, e := wire.EncodeRequest(sh.Schema, r)
		if e != api.OK {
			t.Fatalf("EncodeRequest = %d", e)
		}
		return b
	}
	pieces := [][]byte{
		part(api.Request{Op: api.ROpen}), part(api.Request{Op: api.ROpen}), part(api.Request{Op: api.ROpen}), part(api.Request{Op: api.RCommit}), part(api.Request{Op: api.RAbort}),
		part(api.Request{Op: api.RGet, Key: "a"}), part(api.Request{Op: api.RGet}), part(api.Request{Op: api.RScan, N: -1}), part(api.Request{Op: api.RScan, N: 5}), part(api.Request{Op: api.RUpsert, Key: "a", Src: "new; n += 1"}), part(api.Request{Op: api.RUpsert, Key: "a", Src: "n +"}),
		part(api.Request{Op: api.RQuery, Src: "count"}), part(api.Request{Op: api.RQuery, Src: "sum"}), make([]byte, 4),
	}
	for range 5000 {
		session, at := numbers.Below(api.MaxSessions), numbers.Below(len(pieces)+2)
		if _, is := open[session]; !is {
			session, _ = h.Connect()
			open[session] = false
			continue
		}
		switch {
		case at >= len(pieces) || h.sessions[session].broken:
			h.Close(session)
			delete(open, session)
			continue
		case at < 3:
			open[session] = true
		case at < 5 || at == len(pieces)-1:
			open[session] = false
		}
		h.Feed(session, pieces[at])
		many := 0
		for session, is := range open {
			if is {
				many++
			}
			who := h.sessions[session]
			if who == nil || (who.open != nil) != is || who.splitter.Rest() > 0 {
				t.Fatalf("session %d with an open transaction: %v, is kept as %v", session, is, who)
			}
		}
		if h.manager.Open() != many || len(h.sessions) != len(open) {
			t.Fatalf("%d transactions and %d sessions are open, kept are %d and %d", many, len(open), h.manager.Open(), len(h.sessions))
		}
	}
}
