package server_test

import (
	"bytes"
	"math"
	"runtime"
	"testing"
	"time"

	"arbor/api"
	"arbor/drill"
)

// P25.5: what is fed at one time is as if it were fed in rising order of the numbers.

// P25.5: of two sessions that change a key, the one of the higher number has the last word; the one of the lower number sees nothing of it.
func TestRisingOrder(t *testing.T) {
	for range 20 {
		k := exampleDesk(t)
		pieces, want := map[int][]byte{}, map[int][]byte{}
		for session := range api.MaxSessions {
			k.connect()
			pieces[session] = joined(k.part(get("a")), k.part(upsert("a", "new; n = n * 3 + 1")), k.part(asks(api.RSeq)))
		}
		n := int64(0)
		for session := range api.MaxSessions {
			row := api.Reply{}
			if session > 0 {
				row.Row = api.Row{Here: true, Vals: []api.Value{{Kind: api.Int, N: n}}}
			}
			n = n*3 + 1
			want[session] = joined(k.replyPart(row), k.replyPart(api.Reply{}), k.replyPart(api.Reply{N: uint64(session + 1)}))
		}
		back, e := k.server.FeedAll(pieces)
		if e != api.OK || len(back) != api.MaxSessions {
			t.Fatalf("FeedAll = %d, %d", len(back), e)
		}
		for session, b := range want {
			if !bytes.Equal(back[session], b) {
				t.Errorf("session %d: %s, want %s", session, k.shownBytes(back[session]), k.shownBytes(b))
			}
		}
	}
}

// P25.5: one number that is no session's: nothing is fed to the others, nor does the call break one.
func TestOneNumberThatIsNoSession(t *testing.T) {
	k := exampleDesk(t)
	k.connect()
	k.connect()
	k.connect()
	k.close(1)
	right := k.part(k.put("a", "{n=1}"))
	for _, wrong := range []int{1, 3, 15, 16, -1, math.MaxInt, math.MinInt} {
		for _, b := range [][]byte{nil, right, brokenEnd} {
			for _, other := range [][]byte{right, right[:5], brokenEnd} {
				back, e := k.server.FeedAll(map[int][]byte{0: other, wrong: b, 2: other})
				if e != api.ErrSession || len(back) > 0 {
					t.Errorf("FeedAll with %d = %v, %d", wrong, back, e)
				}
			}
		}
	}
	for _, session := range []int{0, 2} {
		k.answers(session, get("a"), api.Reply{})
	}
	many := map[int][]byte{}
	for number := range 100000 {
		many[number] = right
	}
	if back, e := k.server.FeedAll(many); e != api.ErrSession || len(back) > 0 {
		t.Errorf("FeedAll of 100000 numbers = %d, %d", len(back), e)
	}
	k.answers(2, asks(api.RSeq), api.Reply{})
	k.isNow()
}

// P25.5: no pieces, and pieces without bytes: the answer has just their numbers.
func TestNoPieces(t *testing.T) {
	k := exampleDesk(t)
	for range 4 {
		k.connect()
	}
	for _, pieces := range []map[int][]byte{nil, {}, {0: nil}, {3: {}, 1: nil}, {0: {1}, 1: {14, 0, 0}, 2: nil}} {
		back, e := k.server.FeedAll(pieces)
		if e != api.OK || len(back) != len(pieces) {
			t.Errorf("FeedAll(%v) = %v, %d", pieces, back, e)
		}
		for session := range pieces {
			if b, is := back[session]; !is || len(b) > 0 {
				t.Errorf("FeedAll(%v) = %v", pieces, back)
			}
		}
	}
}

// P25.5: a session that breaks, or that was broken, is nothing to the others.
func TestABrokenOneAmongOthers(t *testing.T) {
	k := exampleDesk(t)
	for range 3 {
		k.connect()
		k.ask(len(k.open)-1, asks(api.ROpen))
		k.ask(len(k.open)-1, upsert("a", "new; n += 1"))
	}
	commit := k.part(asks(api.RCommit))
	back, e := k.server.FeedAll(map[int][]byte{0: commit, 1: joined(brokenEnd, commit), 2: commit})
	fine := k.replyPart(api.Reply{})
	if e != api.OK || len(back) != 3 || !bytes.Equal(back[0], fine) || !bytes.Equal(back[1], k.noRequest()) || !bytes.Equal(back[2], fine) {
		t.Errorf("FeedAll = %v, %d", back, e)
	}
	seq := k.part(asks(api.RSeq))
	back, e = k.server.FeedAll(map[int][]byte{0: seq, 1: seq, 2: seq})
	two := k.replyPart(api.Reply{N: 2})
	if e != api.OK || len(back) != 3 || !bytes.Equal(back[0], two) || len(back[1]) > 0 || !bytes.Equal(back[2], two) {
		t.Errorf("FeedAll = %v, %d", back, e)
	}
}

// P25.5, W9: the same again and again, with pieces of many lengths; and each goroutine has ended with its call.
func TestTheSameEachTime(t *testing.T) {
	numbers := drill.Numbers(831)
	before := runtime.NumGoroutine()
	var both []*office
	for range 2 {
		seed := drill.Numbers(832)
		both = append(both, newOffice(t, drill.Schemas()[0], drill.Measures()[2], &seed, 20, api.MaxSessions))
	}
	for range 60 {
		length := drill.Pick(&numbers, []int{1, 20, 300, 5000})
		for _, o := range both {
			pieces := map[int][]byte{}
			for session := range api.MaxSessions {
				pieces[session] = o.piece(session, length)
			}
			o.feedsAll(pieces)
		}
	}
	both[0].alike()
	both[1].alike()
	if !drill.SameDisks(both[0].fed.Disk, both[1].fed.Disk) {
		t.Error("the same pieces make two disks")
	}
	// What has sent all may take a moment to be gone.
	for range 100 {
		if runtime.NumGoroutine() <= before {
			return
		}
		time.Sleep(10 * time.Millisecond)
	}
	t.Errorf("%d goroutines, there were %d", runtime.NumGoroutine(), before)
}
