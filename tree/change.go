package tree

import (
	"slices"

	"arbor/api"
	"arbor/node"
)

// change: one call of Apply while it goes on. The nodes that it took out of their pages, or made, stand in held until all is settled: so each page is read and written once at most. In a list of kids such a node, which has no block yet, goes by a number below 0.
type change struct {
	*Tree
	held []api.Node
}

// neighbours: nodes of one level, one behind the other, and the pivots between them.
type neighbours struct {
	nodes  []api.Node
	pivots []string
}

// run: the messages are in the tree, and all that was touched stands in pages: the root's block.
func (c *change) run(ms []api.Message) (int, api.Errno) {
	n, e := c.fed(c.root, anyLevel, ms)
	if e != api.OK {
		return 0, e
	}
	if n, e = c.rooted(n); e != api.OK {
		return 0, e
	}
	return c.putAll(n)
}

// rooted: the one node that the root comes to. Several get a root above them; one with a single kid gives way to it.
func (c *change) rooted(n api.Node) (api.Node, api.Errno) {
	for {
		least := 0
		if n.Level > 1 {
			least = 2
		}
		got, e := c.settled(n, least)
		if e != api.OK {
			return api.Node{}, e
		}
		n = got.nodes[0]
		switch {
		case len(got.nodes) > 1:
			n = api.Node{Level: n.Level + 1, Kids: c.hold(got.nodes), Pivots: got.pivots}
		case len(n.Kids) == 1:
			if n, e = c.fed(n.Kids[0], n.Level-1, n.Msgs); e != api.OK {
				return api.Node{}, e
			}
		default:
			return n, api.OK
		}
	}
}

// settled: what a node comes to that may hold too much: itself, or several. If it has fewer kids or entries than least it comes back as it is: whoever has its neighbours joins it with one, and settles both. It is divided ahead of all else: so what sinks is more than the buffer's share of one kid out of as many as there may be, which pays for the kid's page.
func (c *change) settled(n api.Node, least int) (neighbours, api.Errno) {
settling:
	for {
		var e api.Errno
		switch small := c.smallKid(n); {
		case units(n) > c.most(n.Level):
			return c.divided(n)
		case units(n) < least:
		case small >= 0:
			if n, e = c.joined(n, small); e == api.OK {
				continue settling
			}
		case node.Waiting(c.schema, n) > c.measures.Buffer:
			if n, e = c.flushed(n); e == api.OK {
				continue settling
			}
		}
		return neighbours{nodes: []api.Node{n}}, e
	}
}

// divided: a node of too many kids or entries as so few as will do. With the messages parted too, one of them may still hold too many.
func (c *change) divided(n api.Node) (neighbours, api.Errno) {
	most := c.most(n.Level)
	parts, pivots, e := node.Split(n, (units(n)+most-1)/most)
	if e != api.OK {
		return neighbours{}, api.ErrDamaged
	}
	var all neighbours
	for i, part := range parts {
		got, e := c.settled(part, c.half(n.Level))
		if e != api.OK {
			return neighbours{}, e
		}
		if i > 0 {
			all.pivots = append(all.pivots, pivots[i-1])
		}
		all.nodes, all.pivots = append(all.nodes, got.nodes...), append(all.pivots, got.pivots...)
	}
	return all, api.OK
}

// joined: a node whose kid, which has too little, was joined with the one behind it, or, if it is the last, with the one ahead of it.
func (c *change) joined(n api.Node, kid int) (api.Node, api.Errno) {
	from := min(kid, len(n.Kids)-2)
	a, e := c.take(n.Kids[from], n.Level-1)
	if e != api.OK {
		return api.Node{}, e
	}
	b, e := c.take(n.Kids[from+1], n.Level-1)
	if e != api.OK {
		return api.Node{}, e
	}
	whole, e := node.Merge(a, n.Pivots[from], b)
	if e != api.OK {
		return api.Node{}, api.ErrDamaged
	}
	return c.replaced(n, from, from+2, whole)
}

// flushed: a node from which all that waits for its fullest kid sank into that.
func (c *change) flushed(n api.Node) (api.Node, api.Errno) {
	kid := node.Fullest(c.schema, n)
	ms, n, e := node.Draw(n, kid)
	if e != api.OK {
		return api.Node{}, api.ErrDamaged
	}
	fed, e := c.fed(n.Kids[kid], n.Level-1, ms)
	if e != api.OK {
		return api.Node{}, e
	}
	return c.replaced(n, kid, kid+1, fed)
}

// replaced: a node in which what another one settles to stands in the place of some kids.
func (c *change) replaced(n api.Node, from, to int, by api.Node) (api.Node, api.Errno) {
	got, e := c.settled(by, c.half(by.Level))
	if e != api.OK {
		return api.Node{}, e
	}
	n, e = node.Replace(n, from, to, c.hold(got.nodes), got.pivots)
	if e != api.OK {
		return api.Node{}, api.ErrDamaged
	}
	return n, api.OK
}

// fed: a kid, or the root, with the messages that come to it.
func (c *change) fed(kid, level int, ms []api.Message) (api.Node, api.Errno) {
	n, e := c.take(kid, level)
	if e != api.OK {
		return api.Node{}, e
	}
	if n.Level == 1 {
		return node.Apply(c.schema, n, ms...)
	}
	kids := n.Kids
	n.Kids = places(len(kids)) // node.Add takes blocks, and some kids have none yet
	n, e = node.Add(c.schema, n, ms...)
	n.Kids = kids
	return n, e
}

func places(many int) []int {
	list := make([]int, many)
	for i := range list {
		list[i] = i
	}
	return list
}

// smallKid: the place of the first kid in hand that has less than half; -1, if none has.
func (c *change) smallKid(n api.Node) int {
	return slices.IndexFunc(n.Kids, func(kid int) bool {
		return kid < 0 && units(c.held[^kid]) < c.half(n.Level-1)
	})
}

// hold: the nodes are in hand: what they go by as kids.
func (c *change) hold(nodes []api.Node) []int {
	var kids []int
	for _, n := range nodes {
		kids = append(kids, ^len(c.held))
		c.held = append(c.held, n)
	}
	return kids
}

// take: a kid that is in hand, or that is taken out of its page.
func (c *change) take(kid, level int) (api.Node, api.Errno) {
	if kid < 0 {
		return c.held[^kid], api.OK
	}
	n, e := c.read(kid, level)
	if e != api.OK {
		return api.Node{}, e
	}
	return n, c.pages.Drop(kid)
}

// putAll: a node, and ahead of it those below it that are in hand, in pages.
func (c *change) putAll(n api.Node) (int, api.Errno) {
	for place, kid := range n.Kids {
		if kid >= 0 {
			continue
		}
		block, e := c.putAll(c.held[^kid])
		if e != api.OK {
			return 0, e
		}
		n.Kids[place] = block
	}
	return c.put(n)
}

// units: how many entries or kids a node has.
func units(n api.Node) int {
	return max(len(n.Entries), len(n.Kids))
}

// most, half: how many of them a node of a level may have, and must have, unless it is the root.
func (t *Tree) most(level int) int {
	if level == 1 {
		return t.measures.Leaf
	}
	return t.measures.Fanout
}

func (t *Tree) half(level int) int {
	return t.most(level) / 2
}
