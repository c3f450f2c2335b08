package dump_test

import (
	"encoding/binary"
	"hash/crc32"
	"slices"
	"strings"

	"arbor/api"
	"arbor/value"
)

// The chapter's words once more, by other means than the program: a dump is a list of parts, which are sealed by hand; and bytes are held against the words one by one.

// part: a frame's kind and its body.
type part struct {
	kind byte
	body string
}

// pieceOf: an entry's bytes.
func pieceOf(s api.Schema, entry api.Entry) string {
	record, e := value.Encode(s, entry.Vals)
	if e != api.OK {
		panic("no record under " + entry.Key)
	}
	return string([]byte{byte(len(entry.Key))}) + entry.Key + string([]byte{byte(len(record))}) + string(record)
}

func headOf(schema string, seq uint64) part {
	return part{'H', string(binary.LittleEndian.AppendUint64(nil, seq)) + schema}
}

// tailOf: of so many entries in the parts ahead of it.
func tailOf(entries int, ahead []part) part {
	all := ""
	for _, p := range ahead {
		all += p.body
	}
	b := binary.LittleEndian.AppendUint64(nil, uint64(entries))
	return part{'Z', string(binary.LittleEndian.AppendUint32(b, crc32.ChecksumIEEE([]byte(all))))}
}

// tailed: the same parts, of so many entries, with a tail behind them.
func tailed(entries int, ahead ...part) []part {
	return append(slices.Clone(ahead), tailOf(entries, ahead))
}

// partsOf: of the dump of a schema's text, a number, and the bytes of entries.
func partsOf(schema string, seq uint64, pieces []string, size int) []part {
	parts := []part{headOf(schema, seq)}
	for i, piece := range pieces {
		last := &parts[len(parts)-1]
		if i > 0 && len(last.body)+len(piece) <= size-15 {
			last.body += piece
		} else {
			parts = append(parts, part{'E', piece})
		}
	}
	return tailed(len(pieces), parts...)
}

// sealed: a frame, with its sum made right.
func sealed(p part, gen uint64, size int) []byte {
	b := binary.LittleEndian.AppendUint16([]byte{p.kind}, uint16(len(p.body)))
	b = append(binary.LittleEndian.AppendUint64(b, gen), p.body...)
	b = append(b, make([]byte, size-4-len(b))...)
	return binary.LittleEndian.AppendUint32(b, crc32.ChecksumIEEE(b))
}

// laid: the parts as frames, numbered from 0 on.
func laid(parts []part, size int) []byte {
	var b []byte
	for number, p := range parts {
		b = append(b, sealed(p, uint64(number), size)...)
	}
	return b
}

// bookDump: the dump of a schema, a number and entries.
func bookDump(s api.Schema, seq uint64, list []api.Entry, size int) []byte {
	text, _ := value.PrintSchema(s)
	return laid(partsOf(text, seq, piecesOf(s, list), size), size)
}

func piecesOf(s api.Schema, list []api.Entry) []string {
	var pieces []string
	for _, entry := range list {
		pieces = append(pieces, pieceOf(s, entry))
	}
	return pieces
}

// opened: the part that a frame of that number is, if it is one.
func opened(b []byte, number int) (part, bool) {
	size := len(b)
	length := int(binary.LittleEndian.Uint16(b[1:]))
	if length > size-15 || binary.LittleEndian.Uint64(b[3:]) != uint64(number) || crc32.ChecksumIEEE(b[:size-4]) != binary.LittleEndian.Uint32(b[size-4:]) {
		return part{}, false
	}
	return part{b[0], string(b[11 : 11+length])}, strings.Trim(string(b[11+length:size-4]), "\x00") == ""
}

// book: what bytes tell, if they are a dump.
type book struct {
	info    api.DumpInfo
	list    []api.Entry
	pieces  []string
	firsts  []int // by frame of entries, the number of its first one
	lengths []int // and how long its body is
}

// bookCheck: are bytes a dump?
func bookCheck(b []byte, size int) (book, bool) {
	if len(b) < 2*size || len(b)%size != 0 {
		return book{}, false
	}
	var parts []part
	for number := range len(b) / size {
		p, is := opened(b[number*size:(number+1)*size], number)
		if !is {
			return book{}, false
		}
		parts = append(parts, p)
	}
	last := len(parts) - 1
	x := book{}
	if !x.head(parts[0]) {
		return book{}, false
	}
	for _, p := range parts[1:last] {
		if !x.entries(p) {
			return book{}, false
		}
	}
	if !x.rise() || !x.full(size) || parts[last] != tailOf(len(x.list), parts[:last]) {
		return book{}, false
	}
	x.info.Entries = len(x.list)
	return x, true
}

func (x *book) head(p part) bool {
	if p.kind != 'H' || len(p.body) < 8 {
		return false
	}
	s, e := value.ParseSchema(p.body[8:])
	x.info = api.DumpInfo{Schema: s, Seq: binary.LittleEndian.Uint64([]byte(p.body))}
	return e == api.OK
}

func (x *book) entries(p part) bool {
	if p.kind != 'E' || p.body == "" {
		return false
	}
	x.firsts, x.lengths = append(x.firsts, len(x.list)), append(x.lengths, len(p.body))
	for rest := p.body; rest != ""; {
		key := int(rest[0])
		if len(rest) < 2+key {
			return false
		}
		end := 2 + key + int(rest[1+key])
		if len(rest) < end {
			return false
		}
		vals, e := value.Decode(x.info.Schema, []byte(rest[2+key:end]))
		if e != api.OK {
			return false
		}
		x.list = append(x.list, api.Entry{Key: rest[1 : 1+key], Vals: vals})
		x.pieces = append(x.pieces, rest[:end])
		rest = rest[end:]
	}
	return true
}

// rise: are they keys, each above the one ahead of it?
func (x *book) rise() bool {
	for i, entry := range x.list {
		if len(entry.Key) < 1 || len(entry.Key) > 16 || i > 0 && x.list[i-1].Key >= entry.Key {
			return false
		}
	}
	return true
}

// full: has each frame no room for the next one's first entry?
func (x *book) full(size int) bool {
	for i := 1; i < len(x.firsts); i++ {
		if x.lengths[i-1]+len(x.pieces[x.firsts[i]]) <= size-15 {
			return false
		}
	}
	return true
}
