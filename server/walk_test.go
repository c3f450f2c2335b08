package server_test

import (
	"math"
	"strings"
	"testing"

	"arbor/api"
	"arbor/drill"
)

// walk: any requests of some sessions.
type walk struct {
	*desk
	f    drill.Fitting
	keys int
	most int // sessions
}

func newWalk(k *desk, numbers *drill.Numbers, keys, most int) walk {
	return walk{desk: k, f: drill.Fitting{Schema: k.Schema, Numbers: numbers}, keys: keys, most: most}
}

// queries: for drill's schemas, and wrong ones.
func queries() []string {
	return []string{
		"rows", "count", "sum n", "sum n * 2 - 7", "min n", `max tag ?? ""`, `min tag ?? "x"`, "any on", "all n > 0", "where on rows", "where on rows by n down limit 2", `rows by tag ?? "" limit 3`, "rows by on down", "rows limit 0", "where on rows limit 2",
		"where has tag count", "where false min n", "where n > 3 all true", `where tag ?? "" == "" any off ?? on`, "any here",
		"", "sum", "rows rows", "where", "rows limit -1", "min (n", "sum x", "where x count", "sum tag", "max on", "rows by tag", "where n rows", "any tag", "where has n count", `sum "`, "$", "sum 99999999999999999999", "\xff",
		strings.Repeat(" ", 252) + "rows", strings.Repeat(" ", 253) + "rows", "sum " + strings.Repeat("-", 11) + "n", "sum " + strings.Repeat("-", 12) + "n", strings.Repeat("r", 1024),
	}
}

func (w walk) key() string {
	if w.f.Numbers.Below(25) == 0 {
		return drill.Pick(w.f.Numbers, []string{"", strings.Repeat("k", 17), strings.Repeat("\x00", 255)})
	}
	return drill.SomeKey(w.f.Numbers, w.keys)
}

// end: of a range.
func (w walk) end() string {
	switch w.f.Numbers.Below(6) {
	case 0, 1, 2:
		return ""
	case 3:
		return drill.Pick(w.f.Numbers, []string{"\x00", "\xff", strings.Repeat("\xff", 255), drill.SomeKey(w.f.Numbers, w.keys) + "\x00", strings.Repeat("k", 9)})
	}
	return drill.SomeKey(w.f.Numbers, w.keys)
}

func (w walk) limit() int64 {
	return drill.Pick(w.f.Numbers, []int64{0, 1, 1, 2, 3, 5, 8, 99, 100, 101, 1 << 32, 1<<32 + 1, math.MaxInt64, -1, -1 << 32, math.MinInt64})
}

func (w walk) source() string {
	if w.f.Numbers.Below(8) == 0 {
		return drill.Pick(w.f.Numbers, []string{"", "n +", "x = 1", "n = tag", "n = len(tag)", "$", strings.Repeat(" ", 257), "n = 1; on = n", strings.Repeat("new;", 40), strings.Repeat("n", 1024)})
	}
	return w.f.Source()
}

// request: any one; those that end a transaction and those that ask the store are rarer.
func (w walk) request() api.Request {
	r := api.Request{Id: uint32(w.f.Numbers.Below(1 << 24)), Op: 1 + w.f.Numbers.Below(11)}
	if r.Op <= api.RAbort || r.Op >= api.RSync {
		r.Op = 1 + w.f.Numbers.Below(11)
	}
	switch r.Op {
	case api.RGet, api.RDelete:
		r.Key = w.key()
	case api.RScan:
		r.Key, r.Hi, r.N = w.end(), w.end(), w.limit()
	case api.RPut:
		r.Key, r.Vals = w.key(), w.f.Record()
	case api.RUpsert:
		r.Key, r.Src = w.key(), w.source()
	case api.RQuery:
		r.Key, r.Hi, r.Src = w.end(), w.end(), drill.Pick(w.f.Numbers, queries())
	}
	return r
}

// session: any that is open.
func (w walk) session() int { return drill.Pick(w.f.Numbers, w.numbers()) }

// step: a request; now and then a session comes or goes.
func (w walk) step() api.Reply {
	w.t.Helper()
	switch n := w.f.Numbers.Below(60); {
	case len(w.open) == 0 || n < 2 && len(w.open) < w.most:
		w.connect()
	case n == 2:
		w.close(w.session())
	default:
		return w.ask(w.session(), w.request())
	}
	return api.Reply{}
}

// Chapter 25's table, P25.4, W7: long schedules of few sessions and of many, over few keys and many, trees of all measures.
func TestLongSchedules(t *testing.T) {
	numbers := drill.Numbers(801)
	met, full := map[api.Errno]int{}, 0
	for i, c := range drill.Measures() {
		for _, most := range []int{1, 2, 6, api.MaxSessions} {
			for _, keys := range []int{3, 30, 150} {
				w := newWalk(newDesk(t, drill.Schemas()[i%2], c, 8*keys+16), &numbers, keys, most)
				if keys > 100 {
					w.fill()
				}
				for step := range 500 {
					reply := w.step()
					if met[reply.Err]++; len(reply.Rows) == api.MaxRows {
						full++
					}
					if step%40 == 0 {
						w.isNow()
					}
				}
				w.isNow()
			}
		}
	}
	for _, e := range []api.Errno{api.ErrArg, api.ErrSource, api.ErrUTF8, api.ErrToken, api.ErrNumber, api.ErrString, api.ErrSyntax, api.ErrDepth, api.ErrMany, api.ErrField, api.ErrType, api.ErrOptional, api.ErrKey, api.ErrBatch, api.ErrQuery, api.ErrConflict, api.ErrOrder} {
		if met[e] < 5 {
			t.Errorf("error %d was answered %d times", e, met[e])
		}
	}
	if full < 50 {
		t.Errorf("%d replies had all rows that they may have", full)
	}
}

// fill: every key has a record.
func (w walk) fill() {
	w.t.Helper()
	session := w.connect()
	for number := range w.keys {
		w.ask(session, api.Request{Op: api.RPut, Key: drill.Key(number), Vals: w.f.Record()})
	}
}

// story: what was asked of a transaction, and answered.
type story struct {
	begun int // behind so many commits
	asked []api.Request
	said  []api.Reply
}

// W7, P21.9: the committed transactions once more, each alone in a session, one behind the other, on a new store: those with changes in the order of their commits, each one without changes behind those that were committed ahead of its begin. Each gets the very replies that it got among others, and they leave the same map.
func TestEveryScheduleIsSerial(t *testing.T) {
	numbers := drill.Numbers(802)
	refused, committed := 0, 0
	for i, c := range drill.Measures() {
		w := newWalk(newDesk(t, drill.Schemas()[i%2], c, 200), &numbers, 6, 5)
		var writers, readers []*story
		open := map[int]*story{}
		for range w.most {
			w.connect()
		}
		for range 1500 {
			session, r, commits := w.session(), w.request(), len(w.book.Named)
			s, is := open[session]
			if !is {
				s = &story{begun: commits}
			}
			reply := w.ask(session, r)
			switch {
			case r.Op == api.RSync || r.Op == api.RSeq || reply.Err == api.ErrOrder:
			case r.Op == api.ROpen:
				open[session] = s
			case r.Op == api.RAbort || r.Op == api.RCommit && reply.Err != api.OK:
				delete(open, session)
				refused++
			default:
				if r.Op != api.RCommit {
					s.asked, s.said = append(s.asked, r), append(s.said, reply)
				}
				if is && r.Op != api.RCommit || reply.Err != api.OK {
					continue
				}
				delete(open, session)
				if len(w.book.Named) > commits {
					writers = append(writers, s)
				} else {
					readers = append(readers, s)
				}
			}
		}
		committed += len(writers) + len(readers)
		w.playedAlone(writers, readers)
	}
	if refused < 100 || committed < 3000 {
		t.Errorf("%d transactions were committed, %d were not", committed, refused)
	}
}

func (w walk) playedAlone(writers, readers []*story) {
	w.t.Helper()
	alone := newDesk(w.t, w.Schema, w.Config, w.Geometry.Blocks)
	session := alone.connect()
	play := func(s *story) {
		w.t.Helper()
		alone.ask(session, api.Request{Op: api.ROpen})
		for i, r := range s.asked {
			if got := alone.ask(session, r); !alone.same(got, s.said[i]) {
				w.t.Fatalf("%s: alone %s, among others %s", alone.shown(r), alone.shownReply(got), alone.shownReply(s.said[i]))
			}
		}
		if reply := alone.ask(session, api.Request{Op: api.RCommit}); reply.Err != api.OK {
			w.t.Fatalf("alone RCommit: %d", reply.Err)
		}
	}
	for commits := range len(writers) + 1 {
		for _, s := range readers {
			if s.begun == commits {
				play(s)
			}
		}
		if commits < len(writers) {
			play(writers[commits])
		}
	}
	alone.isNow()
	if got, want := drill.EntriesOf(alone.book.Now(), "", ""), drill.EntriesOf(w.book.Now(), "", ""); !drill.SameEntries(got, want) || alone.seq != w.seq {
		w.t.Fatalf("%v: one behind the other they make %s, want %s", w.Config, drill.ShownEntries(w.Schema, got), drill.ShownEntries(w.Schema, want))
	}
}

// The words: a request that needs a transaction and finds none is one of its own: as if ROpen stood ahead of it, and behind it RCommit, or RAbort where it is refused. To the disk, too, that is the same.
func TestTransactionsOfTheirOwn(t *testing.T) {
	numbers := drill.Numbers(803)
	for i, c := range drill.Measures() {
		a, b := newWalk(newDesk(t, drill.Schemas()[i%2], c, 300), &numbers, 12, 3), newDesk(t, drill.Schemas()[i%2], c, 300)
		for range 3 {
			a.connect()
			b.connect()
		}
		for range 300 {
			session, r := a.session(), a.request()
			alone := a.open[session] == nil && r.Op >= api.RGet && r.Op <= api.RQuery
			want := a.ask(session, r)
			if alone {
				b.ask(session, api.Request{Op: api.ROpen})
			}
			got := b.ask(session, r)
			if alone && got.Err == api.OK {
				b.ask(session, api.Request{Op: api.RCommit})
			} else if alone {
				b.ask(session, api.Request{Op: api.RAbort})
			}
			if !a.same(got, want) {
				t.Fatalf("%s: %s, by hand %s", a.shown(r), a.shownReply(want), a.shownReply(got))
			}
			if !drill.SameDisks(a.Disk, b.Disk) {
				t.Fatalf("behind %s the disk is another one than by hand", a.shown(r))
			}
		}
	}
}
