package bulk

import (
	"arbor/api"
	"arbor/node"
	"arbor/nodepage"
	"arbor/pager"
)

// builder: puts a tree's nodes into pages.
type builder struct {
	pages    *pager.Pager
	schema   api.Schema
	measures api.Config
}

// built: what a node of the next level asks of one that stands in its page. First is the first key of the first leaf below it.
type built struct {
	block, level int
	first        string
}

// tree: level by level, from the leaves up, to the one that has one node: the root's block.
func (b builder) tree(entries []api.Entry) (int, api.Errno) {
	nodes, e := level(b, entries, b.measures.Leaf, leafOf)
	for e == api.OK && len(nodes) > 1 {
		nodes, e = level(b, nodes, b.measures.Fanout, innerOf)
	}
	if e != api.OK {
		return 0, e
	}
	return nodes[0].block, api.OK
}

// level: the nodes over some items, none with more than most of them, from the left to the right.
func level[Item any](b builder, items []Item, most int, over func([]Item) (api.Node, string)) ([]built, api.Errno) {
	var nodes []built
	for _, part := range even(items, most) {
		n, first := over(part)
		block, e := b.put(n)
		if e != api.OK {
			return nil, e
		}
		nodes = append(nodes, built{block, n.Level, first})
	}
	return nodes, api.OK
}

// put: a node in a page of its own.
func (b builder) put(n api.Node) (int, api.Errno) {
	body, e := node.Encode(b.schema, n)
	if e != api.OK {
		return 0, e
	}
	return b.pages.Put(nodepage.Kind(n), body)
}

// leafOf: a leaf, and its first key. Only the one leaf of a tree without entries has none; there is no pivot ahead of it.
func leafOf(entries []api.Entry) (api.Node, string) {
	n := api.Node{Level: 1, Entries: entries}
	if len(entries) == 0 {
		return n, ""
	}
	return n, entries[0].Key
}

func innerOf(kids []built) (api.Node, string) {
	n := api.Node{Level: kids[0].level + 1}
	for i, kid := range kids {
		n.Kids = append(n.Kids, kid.block)
		if i > 0 {
			n.Pivots = append(n.Pivots, kid.first)
		}
	}
	return n, kids[0].first
}

// even: a list cut evenly into as few parts as will do, none with more than most items; so an empty one is one part.
func even[Item any](items []Item, most int) [][]Item {
	parts := fewest(len(items), most)
	each, more := len(items)/parts, len(items)%parts
	var list [][]Item
	from := 0
	for part := range parts {
		to := from + each
		if part < more {
			to++
		}
		list = append(list, items[from:to])
		from = to
	}
	return list
}

// fewest: how many parts will do for so many items, if none is to have more than most of them; one at least.
func fewest(items, most int) int {
	return max(items-1, 0)/most + 1
}
