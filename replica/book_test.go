package replica_test

import (
	"bytes"
	"encoding/binary"
	"hash/crc32"
	"io"

	"arbor/api"
	"arbor/value"
)

// The chapter's words about parts once more, by other means than the program.

// bookPart: the part of a call, byte by byte; of changes that no store accepts, too, as far as their lengths have room.
func bookPart(s api.Schema, number uint64, cs ...api.Change) []byte {
	body := []byte{byte(len(cs))}
	for _, c := range cs {
		body = append(body, byte(c.Kind), byte(len(c.Key)))
		body = append(body, c.Key...)
		switch c.Kind {
		case 1:
			record, _ := value.Encode(s, c.Vals)
			body = append(body, byte(len(record)))
			body = append(body, record...)
		case 3:
			body = binary.LittleEndian.AppendUint16(body, uint16(len(c.Src)))
			body = append(body, c.Src...)
		}
	}
	return bookFrame('R', number, body, len(body)+15)
}

// bookFrame: a frame of so many bytes.
func bookFrame(kind byte, gen uint64, body []byte, size int) []byte {
	b := binary.LittleEndian.AppendUint16([]byte{kind}, uint16(len(body)))
	b = binary.LittleEndian.AppendUint64(b, gen)
	b = append(b, body...)
	b = append(b, make([]byte, size-4-len(b))...)
	return binary.LittleEndian.AppendUint32(b, crc32.ChecksumIEEE(b))
}

// bookCall: the call that some bytes are the part of, if they are one.
func bookCall(b []byte, s api.Schema) (number uint64, cs []api.Change, is bool) {
	if len(b) < 15 || len(b) > 8192 || b[0] != 82 || int(binary.LittleEndian.Uint16(b[1:])) != len(b)-15 {
		return 0, nil, false
	}
	end := len(b) - 4
	if crc32.ChecksumIEEE(b[:end]) != binary.LittleEndian.Uint32(b[end:]) {
		return 0, nil, false
	}
	cs, is = bookBody(bytes.NewReader(b[11:end]), s)
	return binary.LittleEndian.Uint64(b[3:]), cs, is
}

func bookBody(r *bytes.Reader, s api.Schema) ([]api.Change, bool) {
	many, err := r.ReadByte()
	if err != nil || many == 0 || many > 8 {
		return nil, false
	}
	cs := make([]api.Change, many)
	for i := range cs {
		kind, _ := r.ReadByte() // of nothing 0
		key, ok := bookShort(r, 1)
		cs[i] = api.Change{Kind: int(kind), Key: key}
		if !ok || kind < 1 || kind > 3 {
			return nil, false
		}
		if kind == 1 {
			record, ok := bookShort(r, 1)
			vals, e := value.Decode(s, []byte(record))
			if !ok || e != api.OK {
				return nil, false
			}
			cs[i].Vals = vals
		}
		if kind == 3 {
			if cs[i].Src, ok = bookShort(r, 2); !ok {
				return nil, false
			}
		}
	}
	return cs, r.Len() == 0
}

func bookShort(r *bytes.Reader, width int) (string, bool) {
	long := make([]byte, 8)
	if _, err := io.ReadFull(r, long[:width]); err != nil {
		return "", false
	}
	part := make([]byte, binary.LittleEndian.Uint64(long))
	if _, err := io.ReadFull(r, part); err != nil {
		return "", false
	}
	return string(part), true
}
