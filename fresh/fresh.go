// Package fresh: what an object or a caller holds, once more in memory of its own.
package fresh

import (
	"bytes"
	"slices"

	"arbor/api"
)

// Messages: the same ones, which share nothing with those that were handed in, nor with one another.
func Messages(ms []api.Message) []api.Message {
	list := slices.Clone(ms)
	for i, m := range list {
		list[i].Vals, list[i].Code = slices.Clone(m.Vals), bytes.Clone(m.Code)
	}
	return list
}

// Entries: likewise.
func Entries(es []api.Entry) []api.Entry {
	list := slices.Clone(es)
	for i, e := range list {
		list[i].Vals = slices.Clone(e.Vals)
	}
	return list
}

// Node: likewise, whatever stands in it.
func Node(n api.Node) api.Node {
	return api.Node{
		Level:   n.Level,
		Entries: Entries(n.Entries),
		Pivots:  slices.Clone(n.Pivots),
		Kids:    slices.Clone(n.Kids),
		Msgs:    Messages(n.Msgs),
	}
}
