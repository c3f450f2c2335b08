package server_test

import (
	"bytes"
	"encoding/binary"
	"testing"

	"arbor/api"
	"arbor/drill"
	"arbor/wire"
)

// P25.4 to P25.6, W9: however the streams of some sessions are cut into pieces, and whichever call they are fed by.
func TestPieces(t *testing.T) {
	numbers := drill.Numbers(821)
	broken, parts := 0, 0
	for i, c := range drill.Measures() {
		for _, most := range []int{1, 3, api.MaxSessions} {
			for _, length := range []int{1, 5, 40, 1000} {
				o := newOffice(t, drill.Schemas()[i%2], c, &numbers, 20, most)
				for range 100 + 4000/length {
					session := o.session()
					switch n := numbers.Below(20); {
					case n == 0 && (o.lines[session].broken || length > 5):
						o.goes(session)
						o.comes()
					case n < 8:
						pieces := map[int][]byte{}
						for _, session := range o.numbers() {
							if numbers.Below(3) > 0 {
								pieces[session] = o.piece(session, length)
							}
						}
						o.feedsAll(pieces)
					default:
						o.feeds(session, o.piece(session, length))
					}
				}
				broken, parts = broken+o.broken, parts+o.parts
				o.alike()
			}
		}
	}
	if broken < 200 || parts < 20000 {
		t.Errorf("%d sessions were broken, %d parts came", broken, parts)
	}
}

// P25.6: one stream cut at any place, and into bytes.
func TestOneStreamCutAnywhere(t *testing.T) {
	k := exampleDesk(t)
	stream := joined(k.part(k.put("a", "{n=1}")), k.part(asks(api.ROpen)), k.part(upsert("a", "n += 1")), k.part(get("a")), k.noRequest(), k.part(asks(api.RCommit)), k.part(asks(api.RSeq)), k.part(get("a")), brokenEnd, k.part(get("a")))
	whole := func(h *desk, session int, ends ...int) []byte {
		var back []byte
		at := 0
		for _, end := range append(ends, len(stream)) {
			b, _ := h.server.Feed(session, stream[at:end])
			back, at = append(back, b...), end
		}
		return back
	}
	k.connect()
	want := whole(k, 0)
	if parts, e := wire.NewSplitter().Feed(want); len(parts) != 9 || e != api.OK {
		t.Fatalf("%s", k.shownBytes(want))
	}
	var all []int
	for end := range stream {
		all = append(all, end)
		h := exampleDesk(t)
		h.connect()
		if got := whole(h, 0, end); !bytes.Equal(got, want) {
			t.Errorf("cut at %d: %s, want %s", end, k.shownBytes(got), k.shownBytes(want))
		}
	}
	h := exampleDesk(t)
	h.connect()
	if got := whole(h, 0, all...); !bytes.Equal(got, want) {
		t.Errorf("cut into bytes: %s, want %s", k.shownBytes(got), k.shownBytes(want))
	}
}

// P25.4: a broken stream is told behind the parts ahead of it, once; then the session answers ErrWire until it is closed, whatever comes; and its transaction is given up.
func TestBrokenStreams(t *testing.T) {
	for _, length := range []uint32{0, 1, 5, 13, 32769, 1 << 16, 1 << 31, 1<<32 - 1} {
		k := exampleDesk(t)
		k.connect()
		k.connect()
		k.ask(0, asks(api.ROpen))
		end := binary.LittleEndian.AppendUint32(nil, length)
		ahead := k.part(k.put("a", "{n=1}"))
		b, e := k.server.Feed(0, joined(ahead, end[:3]))
		if e != api.OK || !bytes.Equal(b, k.replyPart(api.Reply{})) {
			t.Errorf("ahead of a length of %d: %s, %d", length, k.shownBytes(b), e)
		}
		k.isNoRequest(0, joined(end[3:], k.part(asks(api.RCommit))))
		for _, b := range [][]byte{nil, {1}, k.part(asks(api.RCommit)), end, make([]byte, 1<<16)} {
			if back, e := k.server.Feed(0, b); len(back) > 0 || e != api.ErrWire {
				t.Errorf("behind a length of %d: %s, %d", length, k.shownBytes(back), e)
			}
			if back, e := k.server.FeedAll(map[int][]byte{0: b, 1: nil}); len(back) != 2 || len(back[0]) > 0 || len(back[1]) > 0 || e != api.OK {
				t.Errorf("behind a length of %d: %v, %d", length, back, e)
			}
		}
		k.answers(1, get("a"), api.Reply{})
		k.answers(1, asks(api.RSeq), api.Reply{})
		k.close(0)
	}
}

// P25.4: the shortest and the longest parts that are cut; of other letters, with wrong sums, of no operation: each is answered, and the session goes on.
func TestPartsThatAreNoRequests(t *testing.T) {
	k := exampleDesk(t)
	k.connect()
	k.ask(0, asks(api.ROpen))
	k.ask(0, k.put("a", "{n=1}"))
	var list [][]byte
	for _, n := range []int{14, 15, 17, 255, 256, 32767, 32768} {
		b := make([]byte, n)
		binary.LittleEndian.PutUint32(b, uint32(n))
		list = append(list, b)
	}
	right := k.part(get("a"))
	for bit := 32; bit < 8*len(right); bit++ {
		list = append(list, drill.Turned(right, bit, 1))
	}
	list = append(list, k.replyPart(api.Reply{}), k.noRequest(), k.replyPart(api.Reply{Row: api.Row{Here: true, Vals: k.put("a", "{n=1}").Vals}}))
	for _, b := range list {
		k.isNoRequest(0, b)
		k.answers(0, get("a"), k.row("{n=1}"))
	}
	back, e := k.server.Feed(0, joined(list...))
	if e != api.OK || !bytes.Equal(back, bytes.Repeat(k.noRequest(), len(list))) {
		t.Errorf("one behind the other: %d bytes, %d", len(back), e)
	}
	k.answers(0, asks(api.RCommit), api.Reply{})
	k.isNow()
}

// P25.4: each request has one reply, in its order, with its number, however many come with one piece.
func TestManyRequestsAtOnce(t *testing.T) {
	k := exampleDesk(t)
	k.connect()
	k.ask(0, k.put("a", "{n=1}"))
	var stream, want []byte
	for id := range uint32(50000) {
		r := asks(api.RSeq)
		r.Id = id * 85899
		stream = append(stream, k.part(r)...)
		want = append(want, k.replyPart(api.Reply{Id: r.Id, N: 1})...)
	}
	if back, e := k.server.Feed(0, stream); e != api.OK || !bytes.Equal(back, want) {
		t.Errorf("Feed of 50000 requests = %d bytes, %d", len(back), e)
	}
	k.connect()
	all, e := k.server.FeedAll(map[int][]byte{1: stream, 0: joined(stream, brokenEnd)})
	if e != api.OK || len(all) != 2 || !bytes.Equal(all[0], joined(want, k.noRequest())) || !bytes.Equal(all[1], want) {
		t.Errorf("FeedAll of 100000 requests = %d, %d bytes, %d", len(all[0]), len(all[1]), e)
	}
}
