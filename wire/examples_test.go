package wire_test

import (
	"bytes"
	"strings"
	"testing"

	"arbor/api"
	"arbor/drill"
	"arbor/wire"
)

var five = []api.Value{{Kind: api.Int, N: 5}}

// Examples 1 to 3: the bytes, but for their sum.
func TestExamplesOfRequests(t *testing.T) {
	s := drill.SchemaOf("n:int")
	for _, c := range []struct {
		r    api.Request
		want string
	}{
		{api.Request{Id: 1, Op: api.RSeq}, "\x0e\x00\x00\x00\x51\x01\x00\x00\x00\x0b"},
		{api.Request{Id: 258, Op: api.RGet, Key: "ab"}, "\x11\x00\x00\x00\x51\x02\x01\x00\x00\x04\x02ab"},
		{api.Request{Op: api.RPut, Key: "a", Vals: five}, "\x12\x00\x00\x00\x51\x00\x00\x00\x00\x06\x01a\x01\x0a"},
	} {
		b, e := writesRequest(t, s, c.r)
		if e != api.OK || len(b) != int(b[0]) || string(b[:len(b)-4]) != c.want || !readsRequest(t, s, b) {
			t.Errorf("EncodeRequest(%s) = %x, %d", shownRequest(c.r), b, e)
		}
	}
}

// Example 4.
func TestExamplesOfWrongRequests(t *testing.T) {
	s := drill.SchemaOf("n:int")
	for _, c := range []struct {
		r    api.Request
		want api.Errno
	}{
		{api.Request{Op: api.RGet, Key: "a", N: 1}, api.ErrWire},
		{api.Request{Op: 12}, api.ErrWire},
		{api.Request{Op: api.RGet, Key: strings.Repeat("k", 256)}, api.ErrHuge},
		{api.Request{Op: api.RGet, Key: strings.Repeat("k", 255)}, api.OK},
		{api.Request{Op: api.RGet}, api.OK},
		{api.Request{Op: api.RPut, Key: "a"}, api.ErrValue},
	} {
		if _, e := writesRequest(t, s, c.r); e != c.want {
			t.Errorf("EncodeRequest(%s) = %d, want %d", shownRequest(c.r), e, c.want)
		}
	}
}

// Examples 5 and 6.
func TestExamplesOfReplies(t *testing.T) {
	s := drill.SchemaOf("n:int")
	b, e := writesReply(t, s, api.Reply{Id: 1})
	if want := "\x1b\x00\x00\x00\x52\x01" + strings.Repeat("\x00", 17); e != api.OK || len(b) != 27 || string(b[:23]) != want || !readsReply(t, s, b) || readsRequest(t, s, b) {
		t.Errorf("EncodeReply = %x, %d", b, e)
	}
	for _, c := range []struct {
		r    api.Reply
		want api.Errno
	}{
		{api.Reply{Err: 65536}, api.ErrWire},
		{api.Reply{Value: api.Value{Kind: api.Bool, N: 2}}, api.ErrWire},
		{api.Reply{Rows: make([]api.Entry, 101)}, api.ErrHuge},
		{api.Reply{Row: api.Row{Here: true}}, api.ErrValue},
	} {
		if _, e := writesReply(t, s, c.r); e != c.want {
			t.Errorf("EncodeReply(%s) = %d, want %d", shownReply(c.r), e, c.want)
		}
	}
}

// Example 7.
func TestExampleOfASplitter(t *testing.T) {
	b, _ := wire.EncodeRequest(drill.SchemaOf("n:int"), api.Request{Id: 1, Op: api.RSeq})
	s := wire.NewSplitter()
	for _, c := range []struct {
		piece []byte
		parts int
		want  api.Errno
		rest  int
	}{
		{b[:3], 0, api.OK, 3},
		{append(bytes.Clone(b[3:]), 5), 1, api.OK, 1},
		{[]byte{0, 0, 0}, 0, api.ErrWire, 0},
		{nil, 0, api.ErrWire, 0},
	} {
		parts, e := s.Feed(c.piece)
		if len(parts) != c.parts || e != c.want || s.Rest() != c.rest || len(parts) > 0 && !bytes.Equal(parts[0], b) {
			t.Errorf("Feed(%x) = %x, %d, Rest %d", c.piece, parts, e, s.Rest())
		}
	}
}
