package dump

import (
	"arbor/api"
	"arbor/frame"
	"arbor/little"
	"arbor/value"
)

// writer: a dump in the making.
type writer struct {
	schema  api.Schema
	size    int
	frames  []byte // those that are sealed
	next    uint64 // the number of the next one
	sum     uint32 // of the bodies of those that are sealed
	body    []byte // of entries that are not sealed yet: they have room in one frame
	entries int
}

// newWriter: of a dump that has its head.
func newWriter(s api.Schema, seq uint64, size int) *writer {
	w := &writer{schema: s, size: size}
	text, _ := value.PrintSchema(s)
	w.seal(kindHead, append(little.Append(nil, seq, numberBytes), text...))
	return w
}

// entry: one more, of a key above all others.
func (w *writer) entry(key string, vals []api.Value) {
	record, _ := value.Encode(w.schema, vals)
	b := little.AppendShort(little.AppendShort(nil, key), record)
	if len(w.body)+len(b) > frame.Room(w.size) {
		w.sealEntries()
	}
	w.body = append(w.body, b...)
	w.entries++
}

// whole: the dump, with its tail.
func (w *writer) whole() []byte {
	if len(w.body) > 0 {
		w.sealEntries()
	}
	tail := little.Append(nil, uint64(w.entries), numberBytes)
	w.seal(kindTail, little.Append(tail, uint64(w.sum), sumBytes))
	return w.frames
}

func (w *writer) sealEntries() {
	w.seal(kindEntries, w.body)
	w.body = w.body[:0]
}

// seal: one frame more, whose body has room in it.
func (w *writer) seal(kind byte, body []byte) {
	b, _ := frame.Seal(api.Frame{Kind: kind, Gen: w.next, Body: body}, w.size)
	w.frames = append(w.frames, b...)
	w.next++
	w.sum = frame.Extend(w.sum, body)
}
