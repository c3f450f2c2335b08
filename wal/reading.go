package wal

import (
	"bytes"

	"arbor/api"
	"arbor/little"
)

// reading: one going through a log. Its next sector is read when a byte of it is wanted.
type reading struct {
	area
	next  int
	ended bool   // no sector behind those that were read counts
	ahead []byte // what was read of the stream and not cut off yet
}

// record: the stream's next one, if it is there whole.
func (r *reading) record() ([]byte, bool) {
	if !r.want(lengthBytes) {
		return nil, false
	}
	length := int(little.Number(r.cut(lengthBytes)))
	if length == 0 || length > api.MaxEntry || !r.want(length) {
		return nil, false
	}
	return bytes.Clone(r.cut(length)), true
}

// want: are the next n bytes there? Sectors are read until they are, or no more counts.
func (r *reading) want(n int) bool {
	for len(r.ahead) < n && !r.ended {
		r.readNext()
	}
	return len(r.ahead) >= n
}

func (r *reading) readNext() {
	piece := r.read(r.next)
	r.ahead = append(r.ahead, piece...)
	r.next++
	r.ended = len(piece) < r.room() || r.next == r.count
}

// cut: the next n bytes, which are there. They share memory with what was read.
func (r *reading) cut(n int) []byte {
	b := r.ahead[:n:n]
	r.ahead = r.ahead[n:]
	return b
}
