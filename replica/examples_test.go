package replica_test

import (
	"bytes"
	"testing"

	"arbor/api"
	"arbor/drill"
	"arbor/dump"
)

// What is in the chapter's examples.

var (
	exampleSchema   = drill.SchemaOf("n:int")
	exampleMeasures = drill.Measures()[0]
)

func exampleLead(t *testing.T) *lead {
	t.Helper()
	numbers := drill.Numbers(1)
	return newLead(t, exampleSchema, exampleMeasures, 100, &numbers)
}

func exampleTail(t *testing.T) *tail {
	t.Helper()
	return newTail(t, exampleSchema, exampleMeasures, 60, 0)
}

func (l *lead) wantSince(seq uint64, most, parts int, want api.Errno) [][]byte {
	l.t.Helper()
	got, e := l.since(seq, most)
	if len(got) != parts || e != want {
		l.t.Errorf("Since(%d, %d) = %d parts, %d, want %d, %d", seq, most, len(got), e, parts, want)
	}
	return got
}

func (l *lead) wantTrim(seq uint64, want api.Errno) {
	l.t.Helper()
	if e := l.p.Trim(seq); e != want {
		l.t.Errorf("Trim(%d) = %d, want %d", seq, e, want)
	}
	if want == api.OK {
		l.trim(seq)
	}
}

func (x *tail) wantFeed(b []byte, want api.Errno, seq uint64) {
	x.t.Helper()
	if e := x.feed(b); e != want || x.f.Seq() != seq {
		x.t.Errorf("Feed(%x) = %d, Seq = %d, want %d, %d", b, e, x.f.Seq(), want, seq)
	}
}

func TestExample1(t *testing.T) {
	l := exampleLead(t)
	l.doAll("delete x", "delete x")
	l.do(drill.ChangeOf(l.Schema, "put a {n=5}"), drill.ChangeOf(l.Schema, "delete b"), drill.ChangeOf(l.Schema, "upsert c new"))
	part := l.wantSince(2, 9, 1, api.OK)[0]
	head := []byte("\x52\x11\x00\x03\x00\x00\x00\x00\x00\x00\x00\x03\x01\x01\x61\x01\x0a\x02\x01\x62\x03\x01\x63\x03\x00\x6e\x65\x77")
	if len(part) != 32 || !bytes.Equal(part[:28], head) || !bytes.Equal(part, bookFrame(82, 3, head[11:], 32)) {
		t.Errorf("the part is %x", part)
	}
}

func TestExample2(t *testing.T) {
	l := exampleLead(t)
	l.wantSince(0, 9, 0, api.OK)
	l.doAll("put a {n=5}")
	part := l.wantSince(0, 9, 1, api.OK)[0]
	if number, _, is := bookCall(part, l.Schema); !is || number != 1 {
		t.Errorf("the part %x has number %d", part, number)
	}
	l.wantSince(1, 9, 0, api.OK)
	l.wantSince(2, 9, 0, api.ErrGap)
	l.wantSince(0, -1, 0, api.ErrArg)
	l.wantTrim(1, api.OK)
	l.wantSince(0, 9, 0, api.ErrGap)
	l.wantSince(1, 9, 0, api.OK)
	l.wantTrim(2, api.ErrGap)
}

func TestExample3(t *testing.T) {
	l, x := exampleLead(t), exampleTail(t)
	l.doAll("put a {n=5}", "upsert a n += 1")
	parts := l.wantSince(0, 9, 2, api.OK)
	x.wantFeed(parts[1], api.ErrGap, 0)
	x.wantFeed(parts[0], api.OK, 1)
	x.wantFeed(parts[0], api.OK, 1)
	x.wantFeed(parts[1], api.OK, 2)
	for bit := range 8 * len(parts[1]) {
		x.wantFeed(drill.Turned(parts[1], bit, 1), api.ErrWire, 2)
	}
	x.wantFeed(nil, api.ErrWire, 2)
	x.wantFeed([]byte{}, api.ErrWire, 2)
	holds(t, x.Store, map[string]api.Row{"a": drill.RowOf(x.Schema, "{n=6}")})
}

func TestExample4(t *testing.T) {
	l, x := exampleLead(t), newTail(t, drill.SchemaOf("on:bool"), exampleMeasures, 60, 0)
	l.doAll("put a {n=5}", "upsert a n += 1", "delete a")
	parts := l.wantSince(0, 9, 3, api.OK)
	x.wantFeed(parts[0], api.ErrWire, 0)
	y := newTail(t, drill.SchemaOf("on:bool"), exampleMeasures, 60, 1)
	for range 3 {
		y.wantFeed(parts[1], api.ErrField, 1)
		y.wantFeed(parts[2], api.ErrGap, 1)
	}
}

func TestExample5(t *testing.T) {
	l := exampleLead(t)
	for number := range 40 {
		l.doAll("put " + string(rune('a'+number%7)) + " {n=5}")
	}
	b, e := dump.Save(l.Store, 200)
	if e != api.OK {
		t.Fatalf("Save = %d", e)
	}
	info, _ := dump.Check(b, 200)
	if info.Seq != 40 || info.Entries != 7 {
		t.Fatalf("the dump has %v", info)
	}
	g := drill.GeometryOf(drill.Measures()[1], 100)
	st, e := dump.Load(b, 200, drill.NewDisk(g), g, drill.Measures()[1])
	if e != api.OK {
		t.Fatalf("Load = %d", e)
	}
	if f := newFollower(t, st, 33); f.Seq() != 40 {
		t.Errorf("Seq = %d", f.Seq())
	}
}
