package server_test

import (
	"strconv"
	"testing"

	"arbor/api"
	"arbor/disk"
	"arbor/drill"
	"arbor/store"
)

// P25.8: losses of power, full disks, damage.

// survived: a desk over what a disk holds behind a loss of power: the map behind some first commits, all those that were durable among them. The commit in which the power went may count as the last one.
func (k *desk) survived(d *disk.Disk) *desk {
	k.t.Helper()
	st, e := store.Open(d)
	if e != api.OK {
		k.t.Fatalf("%v: Open = %d", k.Config, e)
	}
	past := k.book.Past
	if k.dying != nil {
		past = append(past[:len(past):len(past)], drill.PlayChanges(k.Schema, k.book.Now(), k.dying.Changes...))
	}
	if st.Seq() < k.least || st.Seq()-k.before >= uint64(len(past)) {
		k.t.Fatalf("%v: Seq = %d, of %d commits behind %d, where %d were durable", k.Config, st.Seq(), len(past)-1, k.before, k.least)
	}
	over := deskOver(k.t, &drill.Shop{Schema: k.Schema, Config: k.Config, Geometry: k.Geometry, Disk: d, Store: st, Rows: past[st.Seq()-k.before]})
	over.isNow()
	return over
}

// P25.8, W2, P21.10: the power goes anywhere, again and again; the server answers still, and what survives is the map behind some first commits, all those ahead of the last RSync that was answered OK among them.
func TestLossesOfPower(t *testing.T) {
	numbers := drill.Numbers(861)
	lost, dying, dark := 0, 0, 0
	for i, c := range drill.Measures() {
		k := newDesk(t, drill.Schemas()[i%2], c, 300)
		for range 80 {
			w := newWalk(k, &numbers, 30, 6)
			k.Disk.Arm(numbers.Below(25 * k.Geometry.Per))
			for !k.Disk.Dead() {
				w.step()
			}
			stats := k.Disk.Stats()
			for range 60 {
				if reply := w.step(); reply.Err == api.ErrPower {
					dark++
				}
			}
			if k.Disk.Stats() != stats {
				t.Fatalf("%v: a dead disk was asked: %v, was %v", k.Config, k.Disk.Stats(), stats)
			}
			last := k.seq
			k = k.survived(k.Disk.Survive(numbers.Keep(len(k.Disk.Pending()))))
			switch {
			case k.seq < last:
				lost++
			case k.seq > last:
				dying++
			}
		}
	}
	if lost < 200 || dying < 5 || dark < 10000 {
		t.Errorf("commits were lost %d times, %d times one counts in which the power went, %d replies said ErrPower", lost, dying, dark)
	}
}

// P25.8: what is answered without power, and by whom.
func TestWithoutPower(t *testing.T) {
	k := exampleDesk(t)
	for range 4 {
		k.connect()
	}
	k.ask(0, k.put("a", "{n=1}"))
	k.ask(0, asks(api.RSync))
	for session := range 3 {
		k.ask(session, asks(api.ROpen))
		k.ask(session, k.put("b", "{n=2}"))
	}
	k.ask(1, get("a"))
	k.Disk.Arm(0)
	nothing, power := api.Reply{}, refused(api.ErrPower)
	k.answers(3, k.put("a", "{n=3}"), power)
	for range 2 {
		k.answers(3, k.put("a", "{n=3}"), power)
		k.answers(3, upsert("a", "n += 1"), power)
		k.answers(3, remove("a"), power)
		k.answers(3, get("a"), power)
		k.answers(3, get(""), refused(api.ErrKey))
		k.answers(3, scan("", "", 1), power)
		k.answers(3, scan("", "", 0), nothing)
		k.answers(3, scan("", "", -1), refused(api.ErrArg))
		k.answers(3, queryOf("", "", "count"), power)
		k.answers(3, queryOf("b", "a", "count"), worth(0))
		k.answers(3, queryOf("", "", "sum x"), refused(api.ErrField))
		k.answers(3, asks(api.RSync), power)
		k.answers(3, asks(api.RSeq), api.Reply{N: 1})
		k.answers(3, asks(api.RCommit), refused(api.ErrOrder))
	}
	// In an open transaction what is settled is told still, and changes are taken.
	k.answers(0, get("b"), k.row("{n=2}"))
	k.answers(0, get("a"), power)
	k.answers(0, scan("b", "c", 1), power)
	k.answers(0, upsert("b", "n += 1"), nothing)
	k.answers(0, asks(api.RCommit), power)
	k.answers(0, asks(api.RCommit), refused(api.ErrOrder))
	k.answers(1, asks(api.RAbort), nothing)
	k.answers(1, asks(api.ROpen), nothing)
	k.answers(1, asks(api.RCommit), nothing)
	k.isNoRequest(2, brokenEnd)
	k.close(2)
	k.connect()
	over := k.survived(k.Disk.Survive(nil))
	over.connect()
	over.answers(0, get("a"), k.row("{n=1}"))
	over.answers(0, get("b"), nothing)
}

// P25.8: a store that is full says so, then ErrReadOnly; what is asked of it is answered as before.
func TestFullStores(t *testing.T) {
	numbers := drill.Numbers(862)
	full := 0
	for i, c := range drill.Measures()[:7] {
		for _, blocks := range []int{5, 8, 13, 21} {
			w := newWalk(newDesk(t, drill.Schemas()[i%2], c, blocks), &numbers, 40*c.Leaf, 5)
			for range 300 {
				w.step()
			}
			for len(w.open) < 2 {
				w.connect()
			}
			session := w.numbers()[0]
			for w.Store.Mode() == api.ModeOpen {
				w.ask(session, asks(api.ROpen))
				for range 8 {
					w.ask(session, api.Request{Op: api.RPut, Key: "n" + strconv.Itoa(numbers.Below(10000)), Vals: w.f.Record()})
				}
				if w.ask(session, asks(api.RCommit)).Err == api.ErrFull {
					full++
				}
			}
			w.isNow()
			for range 200 {
				w.step()
			}
			session = w.connectOrPick()
			w.ask(session, asks(api.RAbort))
			for _, r := range []api.Request{remove("k"), upsert("k", "new"), {Op: api.RPut, Key: "k", Vals: w.f.Record()}} {
				w.answers(session, r, refused(api.ErrReadOnly))
			}
			w.answers(session, asks(api.RSync), api.Reply{})
			w.isNow()
			again := w.survived(w.Disk.Survive(nil))
			again.connect()
			again.ask(0, remove("k"))
		}
	}
	if full < 5 {
		t.Errorf("%d commits met ErrFull behind the walks", full)
	}
}

// connectOrPick: a session that is open.
func (w walk) connectOrPick() int {
	if len(w.open) < api.MaxSessions {
		return w.connect()
	}
	return w.session()
}
