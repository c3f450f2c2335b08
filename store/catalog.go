package store

import (
	"arbor/api"
	"arbor/little"
	"arbor/node"
	"arbor/value"
)

// The places in a catalog's body.
const (
	atFanout = 0
	atLeaf   = 1
	atBuffer = 2
	atSchema = 4
)

// catalogOf: the body of the catalog of a configuration that may be and a schema. A page that has room for nodes has room for it.
func catalogOf(c api.Config, s api.Schema) []byte {
	b := make([]byte, atSchema)
	little.Put(b[atFanout:atLeaf], uint64(c.Fanout))
	little.Put(b[atLeaf:atBuffer], uint64(c.Leaf))
	little.Put(b[atBuffer:atSchema], uint64(c.Buffer))
	text, _ := value.PrintSchema(s)
	return append(b, text...)
}

// catalogIn: what the catalog in a page tells, if it is one, of a store whose pages have room for bodies of so many bytes. (ParseSchema takes no text but those that PrintSchema writes.)
func catalogIn(f api.Frame, room int) (api.Config, api.Schema, bool) {
	if f.Kind != api.KindCatalog || len(f.Body) < atSchema {
		return api.Config{}, api.Schema{}, false
	}
	c := api.Config{
		Fanout: int(little.Number(f.Body[atFanout:atLeaf])),
		Leaf:   int(little.Number(f.Body[atLeaf:atBuffer])),
		Buffer: int(little.Number(f.Body[atBuffer:atSchema])),
	}
	s, e := value.ParseSchema(string(f.Body[atSchema:]))
	if e != api.OK || node.Fits(c, room) != api.OK {
		return api.Config{}, api.Schema{}, false
	}
	return c, s, true
}
