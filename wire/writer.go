package wire

import (
	"arbor/api"
	"arbor/frame"
	"arbor/little"
	"arbor/value"
)

// writer: a part in the making, byte by byte. The writers of requests and of replies embed it.
type writer struct {
	schema api.Schema
	b      []byte
}

// newWriter: of a part that has its head. The length is a zero until the part is whole.
func newWriter(s api.Schema, letter byte, id uint32) writer {
	w := writer{schema: s}
	w.number(0, lengthBytes)
	w.number(uint64(letter), letterBytes)
	w.number(uint64(id), idBytes)
	return w
}

func (w *writer) number(n uint64, bytes int) {
	w.b = little.Append(w.b, n, bytes)
}

func (w *writer) short(text string) {
	w.b = little.AppendShort(w.b, text)
}

func (w *writer) long(text string) {
	w.b = little.AppendSized(w.b, text, 2)
}

// record: one of the schema.
func (w *writer) record(vals []api.Value) {
	b, _ := value.Encode(w.schema, vals)
	w.b = little.AppendShort(w.b, b)
}

// whole: the part, with its length and its sum.
func (w *writer) whole() []byte {
	little.Put(w.b[:lengthBytes], uint64(len(w.b)+sumBytes))
	w.number(uint64(frame.Sum(w.b)), sumBytes)
	return w.b
}
