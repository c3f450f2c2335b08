package wire

import (
	"arbor/api"
	"arbor/little"
	"arbor/value"
)

// reader: reads what a writer wrote. Of other bytes it reads something too: where they end, nothing is left, and a record that is none has no values.
type reader struct {
	schema api.Schema
	rest   []byte
}

// take: the next bytes, or those that are left.
func (r *reader) take(bytes int) []byte {
	bytes = min(bytes, len(r.rest))
	taken := r.rest[:bytes]
	r.rest = r.rest[bytes:]
	return taken
}

// id: the number that the head of a part tells.
func (r *reader) id() uint32 {
	r.take(lengthBytes + letterBytes)
	return uint32(r.number(idBytes))
}

func (r *reader) number(bytes int) uint64 {
	return little.Number(r.take(bytes))
}

func (r *reader) short() string {
	return string(r.sized(1))
}

func (r *reader) long() string {
	return string(r.sized(2))
}

func (r *reader) record() []api.Value {
	vals, _ := value.Decode(r.schema, r.sized(1))
	return vals
}

// sized: bytes with their number ahead of them in so many.
func (r *reader) sized(bytes int) []byte {
	return r.take(int(r.number(bytes)))
}

// listOf: a list with the number of its elements ahead of it in so many bytes. No more of them are read than any list may have.
func listOf[Element any](r *reader, bytes int, element func() Element) []Element {
	var list []Element
	for range min(r.number(bytes), api.MaxRows) {
		list = append(list, element())
	}
	return list
}
