package server_test

import (
	"bytes"
	"maps"
	"testing"

	"arbor/api"
	"arbor/drill"
)

const spareByte = 0x77

// P25.7, R5: bytes that are handed in are not changed, nor is the room behind them, nor are they kept: what waits for the rest of its part is not theirs.
func TestPiecesAreNotKept(t *testing.T) {
	numbers := drill.Numbers(841)
	for i, c := range drill.Measures()[:4] {
		o := newOffice(t, drill.Schemas()[i%2], c, &numbers, 20, 4)
		for range 300 {
			session := o.session()
			piece := o.piece(session, 60)
			roomy := drill.Roomy(piece, spareByte)
			was := o.lines[session].broken
			got, e := o.fed.server.Feed(session, roomy)
			if !drill.AsItWas(roomy, piece, spareByte) {
				t.Fatalf("Feed of %x makes %x of it", piece, roomy)
			}
			drill.Overwrite(roomy, 99)
			if want := o.takes(session, piece); !was && (e != api.OK || !bytes.Equal(got, want)) {
				t.Fatalf("Feed of %d bytes = %s, %d, want %s", len(piece), o.shownBytes(got), e, o.shownBytes(want))
			}
		}
		o.alike()
	}
}

// P25.7: likewise of a map and its pieces.
func TestMapsAreNotKept(t *testing.T) {
	numbers := drill.Numbers(842)
	o := newOffice(t, drill.Schemas()[1], drill.Measures()[3], &numbers, 20, 6)
	for range 200 {
		pieces, given := map[int][]byte{}, map[int][]byte{}
		for _, session := range o.numbers() {
			pieces[session] = o.piece(session, 60)
			given[session] = drill.Roomy(pieces[session], spareByte)
		}
		lists := maps.Clone(given)
		got, e := o.fed.server.FeedAll(given)
		if e != api.OK || len(given) != len(pieces) {
			t.Fatalf("FeedAll = %d, and the map has %d pieces", e, len(given))
		}
		for session, b := range pieces {
			if !drill.AsItWas(given[session], b, spareByte) || len(b) > 0 && &given[session][0] != &lists[session][0] {
				t.Fatalf("FeedAll makes %x of %x", given[session], b)
			}
			drill.Overwrite(given[session], 99)
		}
		clear(given)
		for _, session := range o.numbers() {
			back, is := got[session]
			was := o.lines[session].broken
			if want := o.takes(session, pieces[session]); !is || !was && !bytes.Equal(back, want) || was && len(back) > 0 {
				t.Fatalf("session %d: %s, want %s", session, o.shownBytes(back), o.shownBytes(want))
			}
		}
	}
	o.alike()
}

// P25.7, R5: what is answered is new memory: no two answers share any, and what is done to it is not seen later.
func TestAnswersShareNothing(t *testing.T) {
	k := exampleDesk(t)
	var answers, copies [][]byte
	keep := func(b []byte, e api.Errno) {
		t.Helper()
		if e != api.OK {
			t.Fatalf("error %d", e)
		}
		answers, copies = append(answers, b), append(copies, bytes.Clone(b))
	}
	for session := range 4 {
		k.connect()
		k.ask(session, k.put("a", "{n=1}"))
		k.ask(session, k.put("b", "{n=2}"))
	}
	stream := joined(k.part(get("a")), k.part(scan("", "", 9)), k.part(queryOf("", "", "rows")), k.part(asks(api.RSeq)), k.part(get("")), k.part(get("nothing")))
	for round := range 6 {
		pieces := map[int][]byte{}
		for session := range 4 {
			keep(k.server.Feed(session, stream))
			keep(k.server.Feed(session, nil))
			pieces[session] = stream
		}
		all, e := k.server.FeedAll(pieces)
		for session := range 4 {
			keep(all[session], e)
		}
		clear(all)
		if round == 2 {
			for _, b := range answers {
				drill.Overwrite(b, spareByte)
			}
			answers, copies = nil, nil
		}
	}
	if drill.AnyTwoShare(answers) {
		t.Error("two answers share memory")
	}
	for i, b := range answers {
		if !bytes.Equal(b, copies[i]) || len(b) > 0 && !bytes.Equal(b, copies[0]) {
			t.Fatalf("answer %d is %s, was %s", i, k.shownBytes(b), k.shownBytes(copies[i]))
		}
	}
}

// R6: two servers over two stores know nothing of one another.
func TestTwoServers(t *testing.T) {
	numbers := drill.Numbers(843)
	var walks []walk
	for i := range 2 {
		walks = append(walks, newWalk(newDesk(t, drill.Schemas()[i], drill.Measures()[i], 200), &numbers, 10, 5))
	}
	for range 1500 {
		drill.Pick(&numbers, walks).step()
	}
	for _, w := range walks {
		w.isNow()
	}
}

// R6: a server goes on where another one left the store.
func TestOneServerBehindAnother(t *testing.T) {
	numbers := drill.Numbers(844)
	k := newDesk(t, drill.Schemas()[0], drill.Measures()[2], 300)
	for range 8 {
		w := newWalk(k, &numbers, 12, 5)
		for range 150 {
			w.step()
		}
		// Those transactions that are open still have changed nothing.
		k.Rows = k.book.Now()
		k = deskOver(t, k.Shop)
		k.isNow()
	}
}
