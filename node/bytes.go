package node

import (
	"arbor/api"
	"arbor/little"
	"arbor/message"
	"arbor/value"
)

// Encode: a node as a page's body.
func Encode(s api.Schema, n api.Node) ([]byte, api.Errno) {
	if e := value.CheckSchema(s); e != api.OK {
		return nil, e
	}
	x := pageOf(s, n)
	if x == nil {
		return nil, api.ErrNode
	}
	return x.body(s), api.OK
}

// Decode: the node that a body is.
func Decode(s api.Schema, b []byte) (api.Node, api.Errno) {
	if e := value.CheckSchema(s); e != api.OK {
		return api.Node{}, e
	}
	r := reader{schema: s, rest: b}
	n := r.node()
	if r.broken || len(r.rest) > 0 || !shortLists(n) {
		return api.Node{}, api.ErrNode
	}
	// Records and messages that could be read are those of the schema: no need to look at them again.
	if x := shapeOf(n); x == nil || !x.named() {
		return api.Node{}, api.ErrNode
	}
	return n, api.OK
}

func (l leaf) body(s api.Schema) []byte {
	b := l.head(len(l.entries))
	for _, e := range l.entries {
		record, _ := value.Encode(s, e.Vals)
		b = little.AppendShort(little.AppendShort(b, e.Key), record)
	}
	return b
}

func (x inner) body(s api.Schema) []byte {
	b := x.head(len(x.kids))
	for _, kid := range x.kids {
		b = little.Append(b, uint64(kid), 2)
	}
	for _, pivot := range x.pivots {
		b = little.AppendShort(b, pivot)
	}
	b = little.Append(b, uint64(len(x.msgs)), 2)
	for _, m := range x.msgs {
		raw, _ := message.Encode(s, m)
		b = append(b, raw...)
	}
	return b
}

// reader: takes the parts of a node from the head of some bytes. Where they are none it is broken, and what it gives from there on means nothing.
type reader struct {
	schema api.Schema
	rest   []byte
	broken bool
}

func (r *reader) node() api.Node {
	level, units := r.number(1), r.number(1)
	if level == 1 {
		return api.Node{Level: level, Entries: list(r, units, r.entry)}
	}
	n := api.Node{Level: level}
	n.Kids = list(r, units, r.kid)
	n.Pivots = list(r, units-1, r.text)
	n.Msgs = list(r, r.number(2), r.message)
	return n
}

// list: so many parts of a kind, or fewer, if it breaks.
func list[Part any](r *reader, many int, part func() Part) []Part {
	var parts []Part
	for len(parts) < many && !r.broken {
		parts = append(parts, part())
	}
	return parts
}

// number: of so many bytes.
func (r *reader) number(bytes int) int {
	if len(r.rest) < bytes {
		r.broken, r.rest = true, nil
		return 0
	}
	n := little.Number(r.rest[:bytes])
	r.rest = r.rest[bytes:]
	return int(n)
}

func (r *reader) short() []byte {
	part, rest, ok := little.Short(r.rest)
	r.rest, r.broken = rest, r.broken || !ok
	return part
}

func (r *reader) text() string {
	return string(r.short())
}

func (r *reader) kid() int {
	return r.number(2)
}

func (r *reader) entry() api.Entry {
	key := r.text()
	vals, e := value.Decode(r.schema, r.short())
	r.broken = r.broken || e != api.OK
	return api.Entry{Key: key, Vals: vals}
}

func (r *reader) message() api.Message {
	m, taken, e := message.Decode(r.schema, r.rest)
	r.rest, r.broken = r.rest[taken:], r.broken || e != api.OK
	return m
}
