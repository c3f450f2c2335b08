package drill

import (
	"slices"
	"strconv"

	"arbor/api"
	"arbor/node"
	"arbor/pager"
)

// Trees in a pager's pages, gone through page by page.

// Measures: from the least to the greatest, with short and long buffers.
func Measures() []api.Config {
	return []api.Config{
		{Fanout: 4, Leaf: 2, Buffer: 115},
		{Fanout: 5, Leaf: 3, Buffer: 115},
		{Fanout: 4, Leaf: 4, Buffer: 300},
		{Fanout: 7, Leaf: 5, Buffer: 150},
		{Fanout: 64, Leaf: 2, Buffer: 115},
		{Fanout: 16, Leaf: 9, Buffer: 900},
		{Fanout: 4, Leaf: 2, Buffer: 3000},
		{Fanout: 64, Leaf: 64, Buffer: 6000},
	}
}

// GeometryOf: with pages that are just large enough for the measures.
func GeometryOf(c api.Config, blocks int) api.Geometry {
	size := 15 + max(2+82*c.Leaf, 4+2*c.Fanout+17*(c.Fanout-1)+c.Buffer, (blocks+7)/8)
	per := (size + 1023) / 1024
	return api.Geometry{Sector: max(64, (size+per-1)/per), Per: per, Log: 2, Blocks: blocks}
}

// Spot: a node in its page, and its range: from Lo on and below Hi, if Open without an upper end.
type Spot struct {
	Block  int
	Node   api.Node
	Lo, Hi string
	Open   bool
}

// InRange: is a text in the node's range?
func (p Spot) InRange(text string) bool {
	return text >= p.Lo && (p.Open || text < p.Hi)
}

// Meets: is there a text in the node's range that is not below lo and at most last? (The least one that is not below lo and in the range is the greater of the two lower ends.)
func (p Spot) Meets(lo, last string) bool {
	return p.InRange(max(p.Lo, lo)) && max(p.Lo, lo) <= last
}

// MeetsBelow: .. or below hi, if that is not empty?
func (p Spot) MeetsBelow(lo, hi string) bool {
	return p.InRange(max(p.Lo, lo)) && (hi == "" || max(p.Lo, lo) < hi)
}

// Kids: where they are and what their ranges are. Of their nodes nothing is known yet.
func (p Spot) Kids() []Spot {
	var list []Spot
	for i, block := range p.Node.Kids {
		kid := Spot{Block: block, Lo: p.Lo, Hi: p.Hi, Open: p.Open}
		if i > 0 {
			kid.Lo = p.Node.Pivots[i-1]
		}
		if i < len(p.Node.Pivots) {
			kid.Hi, kid.Open = p.Node.Pivots[i], false
		}
		list = append(list, kid)
	}
	return list
}

// Spots: all nodes of a tree by their pages, each behind the one that names it; and what is wrong, if a page is no node's or hangs in two places.
func Spots(p *pager.Pager, s api.Schema, root int) (list []Spot, wrong string) {
	list = []Spot{{Block: root, Open: true}}
	met := map[int]int{}
	for i := 0; i < len(list); i++ {
		page := "the page " + strconv.Itoa(list[i].Block)
		f, e := p.Get(list[i].Block)
		if e != api.OK {
			return nil, page + " cannot be read: " + strconv.Itoa(int(e))
		}
		n, e := node.Decode(s, f.Body)
		if e != api.OK || (f.Kind != 'L' || n.Level != 1) && (f.Kind != 'I' || n.Level < 2) {
			return nil, page + " is no node's"
		}
		list[i].Node = n
		if met[list[i].Block]++; met[list[i].Block] > 1 {
			return nil, page + " hangs in two places"
		}
		list = append(list, list[i].Kids()...)
	}
	return list, ""
}

// Misshapen: what is wrong with the shape of the tree whose nodes Spots gave (P17.9); nothing, if it is as it must be.
func Misshapen(s api.Schema, c api.Config, list []Spot) string {
	entries, due := 0, map[int]int{list[0].Block: list[0].Node.Level}
	for i, at := range list {
		what := "the node of level " + strconv.Itoa(at.Node.Level) + " in the page " + strconv.Itoa(at.Block)
		half := c.Fanout / 2
		if at.Node.Level == 1 {
			half = c.Leaf / 2
		}
		switch {
		case node.Check(s, c, at.Node) != api.OK:
			return what + " is none of the measures"
		case slices.ContainsFunc(at.keys(), func(key string) bool { return !at.InRange(key) }):
			return what + " has a key or a pivot out of its range"
		case i > 0 && len(at.Node.Entries)+len(at.Node.Kids) < half:
			return what + " has too little"
		case at.Node.Level != due[at.Block]:
			return what + " stands at another level"
		}
		for _, kid := range at.Node.Kids {
			due[kid] = at.Node.Level - 1
		}
		entries += len(at.Node.Entries)
	}
	return sparse(c, list[0].Node.Level, entries, len(list))
}

// keys: those of its entries and messages, and its pivots.
func (p Spot) keys() []string {
	list := slices.Clone(p.Node.Pivots)
	for _, entry := range p.Node.Entries {
		list = append(list, entry.Key)
	}
	for _, m := range p.Node.Msgs {
		list = append(list, m.Key)
	}
	return list
}

// sparse: what is wrong with a tree of that height if it has so few entries, or so many nodes.
func sparse(c api.Config, high, entries, nodes int) string {
	least := 2 * (c.Leaf / 2)
	for range high - 2 {
		least *= c.Fanout / 2
	}
	if high > 1 && (entries < least || nodes > 2*(entries/(c.Leaf/2))-1) {
		return "of height " + strconv.Itoa(high) + ", with " + strconv.Itoa(entries) + " entries and " + strconv.Itoa(nodes) + " nodes"
	}
	return ""
}

// Pages: the blocks of the pages in use.
func Pages(p *pager.Pager) []int {
	var list []int
	for block := range p.Geometry().Blocks {
		if _, e := p.Get(block); e != api.ErrBlock {
			list = append(list, block)
		}
	}
	return list
}
