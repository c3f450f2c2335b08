package server_test

import (
	"bytes"
	"encoding/binary"
	"testing"

	"arbor/api"
	"arbor/drill"
	"arbor/wire"
)

// Streams in pieces.

// line: what comes in of one session, told once more: all of it, how much of that is cut, and whether it is broken there.
type line struct {
	stream []byte
	cut    int
	broken bool
}

// comes: one more piece: the parts that are whole now; and whether the stream is broken now and was not ahead of it.
func (l *line) comes(piece []byte) (parts [][]byte, breaks bool) {
	l.stream = append(l.stream, piece...)
	for !l.broken && len(l.stream) >= l.cut+4 {
		n := int(binary.LittleEndian.Uint32(l.stream[l.cut:]))
		if n < 14 || n > 32768 {
			l.broken = true
			return parts, true
		}
		if len(l.stream) < l.cut+n {
			break
		}
		parts = append(parts, l.stream[l.cut:l.cut+n])
		l.cut += n
	}
	return parts, false
}

// isNoRequest: what goes back to bytes that are none.
func (k *desk) isNoRequest(session int, b []byte) []byte {
	k.t.Helper()
	back, e := k.server.Feed(session, b)
	if e != api.OK || !bytes.Equal(back, k.noRequest()) {
		k.t.Fatalf("%v: session %d: no request: %x: %s, %d", k.Config, session, b, k.shownBytes(back), e)
	}
	return back
}

// spoiled: a part that is no request, now and then; its length stays.
func (w walk) spoiled(b []byte) []byte {
	switch w.f.Numbers.Below(12) {
	case 0:
		return drill.Turned(b, 32+w.f.Numbers.Below(8*len(b)-32), drill.Pick(w.f.Numbers, w.f.Numbers.Runs()))
	case 1:
		return w.replyPart(api.Reply{Id: 5, Row: w.f.Row()})
	case 2:
		b = make([]byte, 14+w.f.Numbers.Below(30))
		binary.LittleEndian.PutUint32(b, uint32(len(b)))
	}
	return b
}

// some: a stretch of a stream that goes on with whole parts; now and then it is broken behind them.
func (w walk) some(breaks bool) []byte {
	var b []byte
	for range 1 + w.f.Numbers.Below(6) {
		b = append(b, w.spoiled(w.part(w.request()))...)
	}
	if breaks && w.f.Numbers.Below(30) == 0 {
		b = append(b, drill.Pick(w.f.Numbers, [][]byte{{5, 0, 0, 0}, {0, 0, 0, 0}, {13, 0, 0, 0}, {1, 128, 0, 0}, {255, 255, 255, 255, 1, 2, 3}, {14, 0, 0, 128, 14, 0, 0, 0}})...)
		b = append(b, w.part(w.request())...)
	}
	return b
}

// office: a server that is fed streams in pieces, and another one that is asked part by part, in the order in which the parts were whole.
type office struct {
	walk
	fed     *desk // its book is not used
	lines   map[int]*line
	pending map[int][]byte // of a session, what has not come in yet
	parts   int            // that have come
	broken  int            // sessions, so far
}

func newOffice(t *testing.T, s api.Schema, c api.Config, numbers *drill.Numbers, keys, most int) *office {
	o := &office{walk: newWalk(newDesk(t, s, c, 8*keys+16), numbers, keys, most), fed: newDesk(t, s, c, 8*keys+16), lines: map[int]*line{}, pending: map[int][]byte{}}
	for range most {
		o.comes()
	}
	return o
}

func (o *office) comes() {
	number := o.connect()
	o.fed.connect()
	o.lines[number], o.pending[number] = &line{}, nil
}

func (o *office) goes(session int) {
	o.close(session)
	o.fed.close(session)
	delete(o.lines, session)
	delete(o.pending, session)
}

// piece: of what has not come in yet of a session, so many bytes at most.
func (o *office) piece(session, most int) []byte {
	if len(o.pending[session]) == 0 {
		o.pending[session] = o.some(true)
	}
	b := o.pending[session]
	n := min(len(b), o.f.Numbers.Below(most+1))
	o.pending[session] = b[n:]
	return b[:n:n]
}

// takes: what goes back to the parts of a session that are whole with a piece, each of them asked alone: to requests what the book says.
func (o *office) takes(session int, piece []byte) []byte {
	o.t.Helper()
	parts, breaks := o.lines[session].comes(piece)
	o.parts += len(parts)
	var back []byte
	for _, part := range parts {
		if r, e := wire.DecodeRequest(o.Schema, part); e == api.OK {
			back = append(back, o.replyPart(o.ask(session, r))...)
		} else {
			back = append(back, o.isNoRequest(session, part)...)
		}
	}
	if breaks {
		o.broken++
		o.open[session] = nil
		back = append(back, o.isNoRequest(session, brokenEnd)...)
	}
	return back
}

// feeds: a piece of a session: what goes back is what goes back to the parts that are whole now.
func (o *office) feeds(session int, piece []byte) {
	o.t.Helper()
	was := o.lines[session].broken
	got, e := o.fed.server.Feed(session, piece)
	if was {
		if e != api.ErrWire || len(got) > 0 {
			o.t.Fatalf("Feed behind a broken place = %s, %d", o.shownBytes(got), e)
		}
		return
	}
	if want := o.takes(session, piece); e != api.OK || !bytes.Equal(got, want) {
		o.t.Fatalf("%v: session %d: Feed of %d bytes = %s, %d, want %s", o.Config, session, len(piece), o.shownBytes(got), e, o.shownBytes(want))
	}
}

// feedsAll: pieces of some sessions at one time: as if they were fed in rising order of the numbers.
func (o *office) feedsAll(pieces map[int][]byte) {
	o.t.Helper()
	got, e := o.fed.server.FeedAll(pieces)
	if e != api.OK || len(got) != len(pieces) {
		o.t.Fatalf("FeedAll of %d pieces = %d, %d", len(pieces), len(got), e)
	}
	for _, session := range o.numbers() {
		piece, is := pieces[session]
		back, there := got[session]
		if is != there {
			o.t.Fatalf("session %d was fed: %v, and is answered: %v", session, is, there)
		}
		if !is {
			continue
		}
		if want := o.takes(session, piece); !bytes.Equal(back, want) {
			o.t.Fatalf("%v: session %d: FeedAll of %d bytes = %s, want %s", o.Config, session, len(piece), o.shownBytes(back), o.shownBytes(want))
		}
	}
}

// alike: have both servers done the same to their disks?
func (o *office) alike() {
	o.t.Helper()
	if !drill.SameDisks(o.Disk, o.fed.Disk) || o.Store.Seq() != o.fed.Store.Seq() {
		o.t.Fatalf("%v: the disks are not the same; Seq %d, and %d", o.Config, o.Store.Seq(), o.fed.Store.Seq())
	}
	o.isNow()
}
