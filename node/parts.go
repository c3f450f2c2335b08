package node

import (
	"slices"

	"arbor/api"
	"arbor/fresh"
)

// Split: a node as so many of the same level, of even size, and the pivots between them.
func Split(n api.Node, parts int) ([]api.Node, []string, api.Errno) {
	x := shapeOf(n)
	if x == nil {
		return nil, nil, api.ErrNode
	}
	if parts < 1 || parts > max(1, x.units()) {
		return nil, nil, api.ErrArg
	}
	var nodes []api.Node
	var pivots []string
	each, more := x.units()/parts, x.units()%parts
	from := 0
	for part := range parts {
		to := from + each
		if part < more {
			to++
		}
		if part > 0 {
			pivots = append(pivots, x.ahead(from))
		}
		nodes = append(nodes, x.piece(from, to))
		from = to
	}
	return nodes, pivots, api.OK
}

// Merge: two neighbours of one level, with the pivot between them, as one.
func Merge(a api.Node, pivot string, b api.Node) (api.Node, api.Errno) {
	left, right := shapeOf(a), shapeOf(b)
	if left == nil || right == nil || left.height() != right.height() || !left.endsBelow(pivot) || !right.beginsFrom(pivot) {
		return api.Node{}, api.ErrNode
	}
	whole := api.Node{Level: a.Level}
	switch left.(type) {
	case leaf:
		whole.Entries = fresh.Entries(slices.Concat(a.Entries, b.Entries))
	case inner:
		whole.Kids = slices.Concat(a.Kids, b.Kids)
		whole.Pivots = slices.Concat(a.Pivots, []string{pivot}, b.Pivots)
		whole.Msgs = fresh.Messages(slices.Concat(a.Msgs, b.Msgs))
	}
	return whole, api.OK
}

// Replace: an inner node with other kids, and pivots between them, in the places of some of its own.
func Replace(n api.Node, from, to int, kids []int, pivots []string) (api.Node, api.Errno) {
	if _, ok := shapeOf(n).(inner); !ok {
		return api.Node{}, api.ErrNode
	}
	if from < 0 || to <= from || to > len(n.Kids) || len(kids) == 0 || len(pivots) != len(kids)-1 {
		return api.Node{}, api.ErrArg
	}
	n.Kids = slices.Concat(n.Kids[:from], kids, n.Kids[to:])
	n.Pivots = slices.Concat(n.Pivots[:from], pivots, n.Pivots[to-1:])
	if !rising(n.Pivots, itself) {
		return api.Node{}, api.ErrNode
	}
	return fresh.Node(n), api.OK
}

func (l leaf) units() int {
	return len(l.entries)
}

func (l leaf) ahead(unit int) string {
	return l.entries[unit].Key
}

func (l leaf) piece(from, to int) api.Node {
	n := l.bare()
	n.Entries = fresh.Entries(l.entries[from:to])
	return n
}

func (l leaf) endsBelow(pivot string) bool {
	return allBelow(l.entries, entryKey, pivot)
}

func (l leaf) beginsFrom(pivot string) bool {
	return firstFrom(l.entries, entryKey, pivot) == 0
}

func (x inner) units() int {
	return len(x.kids)
}

func (x inner) ahead(unit int) string {
	return x.pivots[unit-1]
}

// piece: its messages are those from the pivot ahead of it on and below the one behind it, where there are such.
func (x inner) piece(from, to int) api.Node {
	n := x.bare()
	n.Kids, n.Pivots = slices.Clone(x.kids[from:to]), slices.Clone(x.pivots[from:to-1])
	first, end := 0, len(x.msgs)
	if from > 0 {
		first = firstFrom(x.msgs, messageKey, x.ahead(from))
	}
	if to < len(x.kids) {
		end = firstFrom(x.msgs, messageKey, x.ahead(to))
	}
	n.Msgs = fresh.Messages(x.msgs[first:end])
	return n
}

func (x inner) endsBelow(pivot string) bool {
	return allBelow(x.pivots, itself, pivot) && allBelow(x.msgs, messageKey, pivot)
}

func (x inner) beginsFrom(pivot string) bool {
	above := len(x.pivots) == 0 || x.pivots[0] > pivot
	return above && firstFrom(x.msgs, messageKey, pivot) == 0
}

// allBelow: of items in the order of their keys.
func allBelow[Item any](items []Item, keyOf func(Item) string, pivot string) bool {
	return firstFrom(items, keyOf, pivot) == len(items)
}
