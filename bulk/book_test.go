package bulk_test

import (
	"arbor/api"
	"arbor/frame"
	"arbor/node"
)

// The chapter's words once more, by other means than the program: things are dealt out one by one, and every node knows all entries that lie below it.

// bookParts: how many of so many things each part has, if they are cut evenly into as few parts as will do.
func bookParts(things, most int) []int {
	parts := 1
	for parts*most < things {
		parts++
	}
	sizes := make([]int, parts)
	for i := range things {
		sizes[i%parts]++
	}
	return sizes
}

// bookLevels: of each level, from the leaves up, how many entries or kids its nodes have.
func bookLevels(c api.Config, entries int) [][]int {
	levels := [][]int{bookParts(entries, c.Leaf)}
	for len(levels[len(levels)-1]) > 1 {
		levels = append(levels, bookParts(len(levels[len(levels)-1]), c.Fanout))
	}
	return levels
}

func bookPages(c api.Config, entries int) int {
	pages := 0
	for _, sizes := range bookLevels(c, entries) {
		pages += len(sizes)
	}
	return pages
}

// bookNode: a node of the bulk tree, the block that it is put into, and the entries of all leaves below it.
type bookNode struct {
	node    api.Node
	block   int
	entries []api.Entry
}

// bookTree: the nodes of the bulk tree in the order in which they are put, if that is into these blocks.
func bookTree(c api.Config, entries []api.Entry, blocks []int) []bookNode {
	var list, below []bookNode
	for i, sizes := range bookLevels(c, len(entries)) {
		var level []bookNode
		for _, size := range sizes {
			n := bookNode{node: api.Node{Level: i + 1}, block: blocks[len(list)]}
			if i == 0 {
				n.entries, n.node.Entries, entries = entries[:size], entries[:size], entries[size:]
			} else {
				n.over(below[:size])
				below = below[size:]
			}
			level, list = append(level, n), append(list, n)
		}
		below = level
	}
	return list
}

func (n *bookNode) over(kids []bookNode) {
	for i, kid := range kids {
		if i > 0 {
			n.node.Pivots = append(n.node.Pivots, kid.entries[0].Key)
		}
		n.node.Kids = append(n.node.Kids, kid.block)
		n.entries = append(n.entries, kid.entries...)
	}
}

// bookWrites: what is written, one sector behind the other, if these nodes are put behind a commit of a generation.
func bookWrites(s api.Schema, g api.Geometry, last uint64, list []bookNode) []api.Write {
	var writes []api.Write
	for _, n := range list {
		kind := byte('I')
		if n.node.Level == 1 {
			kind = 'L'
		}
		body, e := node.Encode(s, n.node)
		if e != api.OK {
			panic("the book's node is none")
		}
		page, e := frame.Seal(api.Frame{Kind: kind, Gen: last + 1, Body: body}, g.Sector*g.Per)
		if e != api.OK {
			panic("the book's page has no room for its node")
		}
		for k := range g.Per {
			writes = append(writes, api.Write{At: 2 + g.Log + n.block*g.Per + k, Bytes: page[k*g.Sector : (k+1)*g.Sector]})
		}
	}
	return writes
}
