package wire_test

import (
	"encoding/binary"
	"hash/crc32"
	"slices"
	"strconv"
	"strings"
	"testing"

	"arbor/api"
	"arbor/drill"
	"arbor/value"
	"arbor/wire"
)

// The chapter's words once more, by other means than the program: bodies are texts that are put together and cut by hand, and each byte is held against the words.

// uses: by operation, what comes behind it: k and h for Key and Hi, n for N, v for Vals, s for Src.
var uses = map[int]string{
	1: "", 2: "", 3: "", 4: "k", 5: "khn", 6: "kv", 7: "k", 8: "ks", 9: "khs", 10: "", 11: "",
}

func u16(n int) string    { return string(binary.LittleEndian.AppendUint16(nil, uint16(n))) }
func u64(n uint64) string { return string(binary.LittleEndian.AppendUint64(nil, n)) }
func u8(n int) string     { return string([]byte{byte(n)}) }
func short(s string) string {
	return u8(len(s)) + s
}

func recordOf(s api.Schema, vals []api.Value) string {
	b, e := value.Encode(s, vals)
	if e != api.OK {
		panic("no record")
	}
	return short(string(b))
}

// part: with its length and its sum.
func part(letter byte, id uint32, body string) []byte {
	b := binary.LittleEndian.AppendUint32(nil, uint32(13+len(body)))
	b = binary.LittleEndian.AppendUint32(append(b, letter), id)
	b = append(b, body...)
	return binary.LittleEndian.AppendUint32(b, crc32.ChecksumIEEE(b))
}

// mended: the same bytes with the length and the sum that they need.
func mended(b []byte) []byte {
	if len(b) < 13 {
		return b
	}
	return part(b[4], binary.LittleEndian.Uint32(b[5:]), string(b[9:len(b)-4]))
}

func bookRequest(s api.Schema, r api.Request) ([]byte, api.Errno) {
	use, known := uses[r.Op]
	there := ""
	for _, p := range []struct {
		letter string
		is     bool
	}{{"k", r.Key != ""}, {"h", r.Hi != ""}, {"n", r.N != 0}, {"v", len(r.Vals) > 0}, {"s", r.Src != ""}} {
		if p.is {
			there += p.letter
		}
	}
	switch {
	case value.CheckSchema(s) != api.OK:
		return nil, api.ErrSchema
	case !known || strings.Trim(there, use) != "":
		return nil, api.ErrWire
	case len(r.Key) > 255 || len(r.Hi) > 255 || len(r.Src) > 1024:
		return nil, api.ErrHuge
	case r.Op == 6 && value.Check(s, r.Vals) != api.OK:
		return nil, api.ErrValue
	}
	body := u8(r.Op)
	for _, p := range use {
		switch p {
		case 'k':
			body += short(r.Key)
		case 'h':
			body += short(r.Hi)
		case 'n':
			body += u64(uint64(r.N))
		case 'v':
			body += recordOf(s, r.Vals)
		case 's':
			body += u16(len(r.Src)) + r.Src
		}
	}
	return part('Q', r.Id, body), api.OK
}

func bookWhole(v api.Value) bool {
	return v.Kind == 0 && v.N == 0 && v.S == "" || v.Kind == 1 && v.S == "" || v.Kind == 2 && v.N|1 == 1 && v.S == "" || v.Kind == 3 && v.N == 0 && len(v.S) < 21
}

func bookReply(s api.Schema, r api.Reply) ([]byte, api.Errno) {
	right := r.Row.Here && value.Check(s, r.Row.Vals) == api.OK || !r.Row.Here && len(r.Row.Vals) == 0
	for _, entry := range r.Rows {
		right = right && entry.Key != "" && len(entry.Key) < 17 && value.Check(s, entry.Vals) == api.OK
	}
	switch {
	case value.CheckSchema(s) != api.OK:
		return nil, api.ErrSchema
	case r.Err < 0 || r.Err > 65535 || !bookWhole(r.Value):
		return nil, api.ErrWire
	case len(r.Rows) > 100:
		return nil, api.ErrHuge
	case !right:
		return nil, api.ErrValue
	}
	body := u16(int(r.Err)) + u64(r.N)
	if r.Row.Here {
		body += u8(1) + recordOf(s, r.Row.Vals)
	} else {
		body += u8(0)
	}
	body += u8(r.Value.Kind) + []string{"", u64(uint64(r.Value.N)), u8(int(r.Value.N)), short(r.Value.S)}[r.Value.Kind]
	body += u16(len(r.Rows))
	for _, entry := range r.Rows {
		body += short(entry.Key) + recordOf(s, entry.Vals)
	}
	return part('R', r.Id, body), api.OK
}

// cutter: takes from the head of a text what is asked for. It is wrong from where something else stands.
type cutter struct {
	s     api.Schema
	rest  string
	wrong bool
}

func (c *cutter) take(n int) string {
	if c.wrong || n > len(c.rest) {
		c.wrong = true
		return ""
	}
	taken := c.rest[:n]
	c.rest = c.rest[n:]
	return taken
}

func (c *cutter) number(bytes int) int {
	n := 0
	for place, b := range []byte(c.take(bytes)) {
		n |= int(b) << (8 * place)
	}
	return n
}

func (c *cutter) short() string { return c.take(c.number(1)) }

// bounded: a text that must not be longer.
func (c *cutter) bounded(bytes, least, most int) string {
	text := c.take(c.number(bytes))
	c.wrong = c.wrong || len(text) < least || len(text) > most
	return text
}

// choice: a number below a bound.
func (c *cutter) choice(bytes, bound int) int {
	n := c.number(bytes)
	c.wrong = c.wrong || n >= bound
	return n
}

func (c *cutter) record() []api.Value {
	vals, e := value.Decode(c.s, []byte(c.short()))
	c.wrong = c.wrong || e != api.OK
	return vals
}

// body: of a part of that letter, and its number.
func body(s api.Schema, b []byte, letter byte) (*cutter, uint32) {
	if len(b) < 14 || len(b) > 32768 || binary.LittleEndian.Uint32(b) != uint32(len(b)) || b[4] != letter || crc32.ChecksumIEEE(b[:len(b)-4]) != binary.LittleEndian.Uint32(b[len(b)-4:]) {
		return &cutter{wrong: true}, 0
	}
	return &cutter{s: s, rest: string(b[9 : len(b)-4])}, binary.LittleEndian.Uint32(b[5:])
}

func (c *cutter) right() bool { return !c.wrong && c.rest == "" }

func bookRequestOf(s api.Schema, b []byte) (api.Request, bool) {
	c, id := body(s, b, 'Q')
	r := api.Request{Id: id, Op: c.number(1)}
	use, known := uses[r.Op]
	for _, p := range use {
		switch p {
		case 'k':
			r.Key = c.short()
		case 'h':
			r.Hi = c.short()
		case 'n':
			r.N = int64(c.number(8))
		case 'v':
			r.Vals = c.record()
		case 's':
			r.Src = c.bounded(2, 0, 1024)
		}
	}
	if !known || !c.right() {
		return api.Request{}, false
	}
	return r, true
}

func bookReplyOf(s api.Schema, b []byte) (api.Reply, bool) {
	c, id := body(s, b, 'R')
	r := api.Reply{Id: id, Err: api.Errno(c.number(2)), N: uint64(c.number(8))}
	if c.choice(1, 2) == 1 {
		r.Row = api.Row{Here: true, Vals: c.record()}
	}
	switch r.Value.Kind = c.choice(1, 4); r.Value.Kind {
	case 1:
		r.Value.N = int64(c.number(8))
	case 2:
		r.Value.N = int64(c.choice(1, 2))
	case 3:
		r.Value.S = c.bounded(1, 0, 20)
	}
	for left := c.choice(2, 101); left > 0 && !c.wrong; left-- {
		r.Rows = append(r.Rows, api.Entry{Key: c.bounded(1, 1, 16), Vals: c.record()})
	}
	if !c.right() {
		return api.Reply{}, false
	}
	return r, true
}

func sameRequest(a, b api.Request) bool {
	return a.Id == b.Id && a.Op == b.Op && a.Key == b.Key && a.Hi == b.Hi && slices.Equal(a.Vals, b.Vals) && a.Src == b.Src && a.N == b.N
}

func sameReply(a, b api.Reply) bool {
	return a.Id == b.Id && a.Err == b.Err && drill.SameRow(a.Row, b.Row) && drill.SameEntries(a.Rows, b.Rows) && a.Value == b.Value && a.N == b.N
}

func shownRequest(r api.Request) string {
	return "operation " + strconv.Itoa(r.Op) + " of " + strconv.Itoa(len(r.Key)) + ", " + strconv.Itoa(len(r.Hi)) + ", " + strconv.Itoa(len(r.Src)) + " bytes, " + strconv.Itoa(len(r.Vals)) + " values, " + strconv.FormatInt(r.N, 10)
}

func shownReply(r api.Reply) string {
	return "error " + strconv.Itoa(int(r.Err)) + ", a row " + strconv.FormatBool(r.Row.Here) + " of " + strconv.Itoa(len(r.Row.Vals)) + " values, kind " + strconv.Itoa(r.Value.Kind) + ", " + strconv.FormatInt(r.Value.N, 10) + ", " + strconv.Itoa(len(r.Value.S)) + " bytes, " + strconv.Itoa(len(r.Rows)) + " rows"
}

// writesRequest: EncodeRequest answers what the book says; what that is.
func writesRequest(t *testing.T, s api.Schema, r api.Request) ([]byte, api.Errno) {
	t.Helper()
	want, errno := bookRequest(s, r)
	b, e := wire.EncodeRequest(s, r)
	if e != errno || !slices.Equal(b, want) {
		t.Fatalf("EncodeRequest(%s) = %x, %d, want %x, %d", shownRequest(r), b, e, want, errno)
	}
	return b, e
}

// readsRequest: DecodeRequest answers what the book says; whether it is a request.
func readsRequest(t *testing.T, s api.Schema, b []byte) bool {
	t.Helper()
	want, is := bookRequestOf(s, b)
	r, e := wire.DecodeRequest(s, b)
	if (e == api.OK) != is || !is && e != api.ErrWire || !sameRequest(r, want) {
		t.Fatalf("DecodeRequest(%x) = %s, %d, want %s, %v", b, shownRequest(r), e, shownRequest(want), is)
	}
	return is
}

func writesReply(t *testing.T, s api.Schema, r api.Reply) ([]byte, api.Errno) {
	t.Helper()
	want, errno := bookReply(s, r)
	b, e := wire.EncodeReply(s, r)
	if e != errno || !slices.Equal(b, want) {
		t.Fatalf("EncodeReply(%s) = %x, %d, want %x, %d", shownReply(r), b, e, want, errno)
	}
	return b, e
}

func readsReply(t *testing.T, s api.Schema, b []byte) bool {
	t.Helper()
	want, is := bookReplyOf(s, b)
	r, e := wire.DecodeReply(s, b)
	if (e == api.OK) != is || !is && e != api.ErrWire || !sameReply(r, want) {
		t.Fatalf("DecodeReply(%x) = %s, %d, want %s, %v", b, shownReply(r), e, shownReply(want), is)
	}
	return is
}

// readsBoth: bytes as a request and as a reply; whether they are one.
func readsBoth(t *testing.T, s api.Schema, b []byte) bool {
	t.Helper()
	request, reply := readsRequest(t, s, b), readsReply(t, s, b)
	if request && reply {
		t.Fatalf("%x is a request and a reply", b)
	}
	return request || reply
}

// oneStepAway: what is one step away from a part is told as the book tells it, as it is (then it is no part) and with a length and a sum that are right; how many of these are parts.
func oneStepAway(t *testing.T, s api.Schema, b []byte, numbers *drill.Numbers) (right int) {
	t.Helper()
	for range 4 {
		for at := range b {
			for _, c := range numbers.Spoiled(b, at) {
				if is := readsBoth(t, s, c); is != slices.Equal(b, c) {
					t.Fatalf("%x instead of %x: a part: %v", c, b, is)
				}
				if readsBoth(t, s, mended(c)) {
					right++
				}
			}
		}
	}
	return right
}
