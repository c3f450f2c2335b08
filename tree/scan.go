package tree

import (
	"iter"
	"slices"

	"arbor/api"
	"arbor/node"
)

// Scan: the first entries, limit at most, of the keys from lo on and below hi, in rising order.
func (t *Tree) Scan(lo, hi string, limit int) ([]api.Entry, api.Errno) {
	if t == nil || limit < 0 {
		return nil, api.ErrArg
	}
	if limit == 0 {
		return nil, api.OK
	}
	var list []api.Entry
	for entry, e := range t.entries(span{lo, hi}) {
		if e != api.OK {
			return nil, e
		}
		list = append(list, entry)
		if len(list) == limit {
			break
		}
	}
	return list, api.OK
}

// All: the entries of the keys from lo on and below hi, one by one; no page is read ahead of need.
func (t *Tree) All(lo, hi string) iter.Seq2[string, []api.Value] {
	return func(yield func(string, []api.Value) bool) {
		if t == nil {
			return
		}
		for entry, e := range t.entries(span{lo, hi}) {
			if e != api.OK || !yield(entry.Key, entry.Vals) {
				return
			}
		}
	}
}

// span: the texts from lo on and below hi; if hi is empty they have no upper end.
type span struct {
	lo, hi string
}

func (s span) endsBehind(text string) bool {
	return s.hi == "" || text < s.hi
}

func (s span) has(text string) bool {
	return text >= s.lo && s.endsBehind(text)
}

// meets: does it have a text in common with the range of a kid of a node, whose own range has one?
func (s span) meets(n api.Node, kid int) bool {
	begins := kid == 0 || s.endsBehind(n.Pivots[kid-1])
	ends := kid == len(n.Pivots) || n.Pivots[kid] > s.lo
	return begins && ends
}

// entries: of the tree as it is when it is gone through. Whoever is given an error stops.
func (t *Tree) entries(s span) iter.Seq2[api.Entry, api.Errno] {
	return func(yield func(api.Entry, api.Errno) bool) {
		if !s.endsBehind(s.lo) {
			return
		}
		for entry, e := range t.below(t.root, anyLevel, s, nil) {
			if !yield(entry, e) {
				return
			}
		}
	}
}

// below: the entries of the node in a page, or of the leaves under it, behind the messages that wait above it for its keys.
func (t *Tree) below(block, level int, s span, above []api.Message) iter.Seq2[api.Entry, api.Errno] {
	return func(yield func(api.Entry, api.Errno) bool) {
		n, e := t.read(block, level)
		switch {
		case e != api.OK:
			yield(api.Entry{}, e)
		case n.Level == 1:
			t.ofLeaf(n, s, above)(yield)
		default:
			t.ofKids(n, s, above)(yield)
		}
	}
}

func (t *Tree) ofLeaf(n api.Node, s span, above []api.Message) iter.Seq2[api.Entry, api.Errno] {
	return func(yield func(api.Entry, api.Errno) bool) {
		n, e := node.Apply(t.schema, n, above...)
		if e != api.OK {
			yield(api.Entry{}, e)
			return
		}
		for _, entry := range n.Entries {
			if s.has(entry.Key) && !yield(entry, api.OK) {
				return
			}
		}
	}
}

func (t *Tree) ofKids(n api.Node, s span, above []api.Message) iter.Seq2[api.Entry, api.Errno] {
	n.Msgs = slices.Concat(n.Msgs, above) // what waits lower down came earlier
	return func(yield func(api.Entry, api.Errno) bool) {
		for kid, block := range n.Kids {
			if !s.meets(n, kid) {
				continue
			}
			ms, _, _ := node.Draw(n, kid)
			for entry, e := range t.below(block, n.Level-1, s, ms) {
				if !yield(entry, e) {
					return
				}
			}
		}
	}
}
