package server_test

import (
	"math"
	"testing"

	"arbor/api"
	"arbor/drill"
	"arbor/store"
)

// What a request asks of the disk.

// byHand: what a request without a transaction is to a store that nobody else asks.
func byHand(st *store.Store, r api.Request) api.Errno {
	switch r.Op {
	case api.RPut:
		return st.Put(r.Key, r.Vals...)
	case api.RDelete:
		return st.Delete(r.Key)
	case api.RUpsert:
		return st.Upsert(r.Key, r.Src)
	case api.RSync:
		return st.Sync()
	}
	return api.OK
}

// The table: outside of transactions a change is one call of the store, and RSync its Sync: the disk is as behind these calls, read by read.
func TestARequestIsOneCall(t *testing.T) {
	numbers := drill.Numbers(881)
	for i, c := range drill.Measures() {
		w := newWalk(newDesk(t, drill.Schemas()[i%2], c, 200), &numbers, 20, 1)
		twin := drill.NewShop(w.Schema, c, 200)
		w.connect()
		for range 300 {
			r := w.request()
			if r.Op != api.RPut && r.Op != api.RDelete && r.Op != api.RUpsert && r.Op != api.RSync {
				continue
			}
			reply := w.ask(0, r)
			if e := byHand(twin.Store, r); e != reply.Err {
				t.Fatalf("%s: error %d, by hand %d", w.shown(r), reply.Err, e)
			}
			if !drill.SameDisks(w.Disk, twin.Disk) {
				t.Fatalf("behind %s the disk is another one than by hand: %v, %v", w.shown(r), w.Disk.Stats(), twin.Disk.Stats())
			}
		}
	}
}

// The table: what the disk is not asked for: what begins a transaction, ends one that has changed nothing or is given up, takes a change of an open one, or is refused.
func TestWhatAsksNothing(t *testing.T) {
	numbers := drill.Numbers(882)
	k := deskOver(t, drill.GrownShop(drill.Schemas()[0], drill.Measures()[0], &numbers, 30))
	for range 3 {
		k.connect()
	}
	k.ask(2, asks(api.ROpen))
	k.ask(2, get(drill.Key(3)))
	k.ask(2, remove(drill.Key(4)))
	k.ask(1, upsert(drill.Key(3), "new"))
	stats, seq := k.Disk.Stats(), k.seq
	k.answers(2, asks(api.RCommit), refused(api.ErrConflict))
	for _, session := range []int{0, 1} {
		k.ask(session, asks(api.RCommit))
		k.ask(session, asks(api.RAbort))
		k.ask(session, asks(api.ROpen))
		k.ask(session, asks(api.ROpen))
		k.ask(session, asks(api.RSeq))
		k.ask(session, upsert(drill.Key(5), "new; n += 1"))
		k.ask(session, remove(drill.Key(5)))
		k.ask(session, get(drill.Key(5))) // it is settled
	}
	k.ask(0, asks(api.RAbort))
	k.ask(0, asks(api.ROpen))
	k.ask(0, asks(api.RCommit))
	for _, text := range queries() {
		if r := queryOf("", "", text); k.asked(k.book.Begin(), r).Err != api.OK {
			k.ask(0, r)
			k.ask(1, r)
		}
	}
	for _, r := range []api.Request{get(""), remove(""), upsert("a", "n +"), upsert("", "new"), scan("", "", -1), scan("", "", math.MinInt64), scan("", "", 0), scan("b", "a", 9), queryOf("b", "a", "rows")} {
		k.ask(0, r)
		k.ask(1, r)
	}
	k.isNoRequest(0, k.noRequest())
	k.isNoRequest(1, brokenEnd)
	k.close(1)
	k.connect()
	if k.Disk.Stats() != stats || k.seq != seq {
		t.Errorf("the disk was asked: %v, was %v", k.Disk.Stats(), stats)
	}
}

// P21, the table: one session's open transaction is one call of the store, when it is committed.
func TestATransactionIsOneCall(t *testing.T) {
	numbers := drill.Numbers(883)
	w := newWalk(newDesk(t, drill.Schemas()[1], drill.Measures()[1], 200), &numbers, 20, 1)
	twin := drill.NewShop(w.Schema, w.Config, 200)
	w.connect()
	for range 100 {
		w.ask(0, asks(api.ROpen))
		var cs []api.Change
		for range 1 + numbers.Below(8) {
			c := w.f.Change(drill.SomeKey(&numbers, 20))
			op := map[int]int{api.MPut: api.RPut, api.MDelete: api.RDelete, api.MUpsert: api.RUpsert}[c.Kind]
			w.ask(0, api.Request{Op: op, Key: c.Key, Vals: c.Vals, Src: c.Src})
			cs = append(cs, c)
		}
		w.ask(0, asks(api.RCommit))
		if e := twin.Store.Apply(cs...); e != api.OK || !drill.SameDisks(w.Disk, twin.Disk) {
			t.Fatalf("behind %s (%d by hand) the disk is another one", drill.ShownChanges(w.Schema, cs), e)
		}
	}
}
