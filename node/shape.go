package node

import (
	"slices"
	"strings"

	"arbor/api"
	"arbor/message"
	"arbor/value"
)

// shaped: a node that has the shape of a leaf or of an inner node. What it holds is the caller's: to be looked at, and copied.
type shaped interface {
	// height: its level.
	height() int
	// named: are its level, keys, pivots and kids such as may be, whatever the schema is?
	named() bool
	// holds: are its records and messages those of a schema?
	holds(s api.Schema) bool
	// within: does it keep to the measures of a tree?
	within(s api.Schema, c api.Config) bool
	// body: its bytes.
	body(s api.Schema) []byte
	// units: how many entries or kids it has.
	units() int
	// ahead: the pivot that would part it ahead of a unit that is not the first.
	ahead(unit int) string
	// piece: a node in other memory, of the units from one on and below another.
	piece(from, to int) api.Node
	// endsBelow, beginsFrom: may it stand on the left of a pivot, and on the right of one?
	endsBelow(pivot string) bool
	beginsFrom(pivot string) bool
}

// levelled: what a leaf and an inner node share.
type levelled struct {
	level int
}

func (l levelled) height() int {
	return l.level
}

// low: has the level room in its byte?
func (l levelled) low() bool {
	return l.level <= 255
}

// bare: a node of the level, without anything in it.
func (l levelled) bare() api.Node {
	return api.Node{Level: l.level}
}

// head: what the bytes of a node of so many units begin with.
func (l levelled) head(units int) []byte {
	return []byte{byte(l.level), byte(units)}
}

type leaf struct {
	levelled
	entries []api.Entry
}

type inner struct {
	levelled
	pivots []string
	kids   []int
	msgs   []api.Message
}

// shapeOf: nil, if a node has neither shape.
func shapeOf(n api.Node) shaped {
	switch {
	case hasLeafShape(n):
		return leaf{levelled{n.Level}, n.Entries}
	case hasInnerShape(n):
		return inner{levelled{n.Level}, n.Pivots, n.Kids, n.Msgs}
	default:
		return nil
	}
}

func hasLeafShape(n api.Node) bool {
	return n.Level == 1 && len(n.Pivots) == 0 && len(n.Kids) == 0 && len(n.Msgs) == 0 &&
		rising(n.Entries, entryKey)
}

func hasInnerShape(n api.Node) bool {
	return n.Level >= 2 && len(n.Entries) == 0 && len(n.Kids) >= 1 && len(n.Pivots) == len(n.Kids)-1 &&
		rising(n.Pivots, itself) && slices.IsSortedFunc(n.Msgs, byKey)
}

// soundOf: nil, if a node is not sound.
func soundOf(s api.Schema, n api.Node) shaped {
	x := shapeOf(n)
	if x == nil || !x.named() || !x.holds(s) {
		return nil
	}
	return x
}

// pageOf: nil, if a node does not fit a page.
func pageOf(s api.Schema, n api.Node) shaped {
	if !shortLists(n) {
		return nil
	}
	return soundOf(s, n)
}

// maxMsgs: their number stands in two bytes.
const maxMsgs = 65535

// shortLists: are a node's lists within those of one that fits a page? A leaf has no kid; so one kid, too few for an inner node, is wrong for both.
func shortLists(n api.Node) bool {
	return len(n.Entries) <= api.MaxLeaf && len(n.Kids) <= api.MaxFanout && len(n.Kids) != 1 && len(n.Msgs) <= maxMsgs
}

func (l leaf) named() bool {
	return l.low() && allKeys(l.entries, entryKey)
}

func (l leaf) holds(s api.Schema) bool {
	for _, e := range l.entries {
		if value.Check(s, e.Vals) != api.OK {
			return false
		}
	}
	return true
}

func (l leaf) within(s api.Schema, c api.Config) bool {
	return len(l.entries) <= c.Leaf
}

func (x inner) named() bool {
	return x.low() && allKeys(x.pivots, itself) && differentBlocks(x.kids)
}

func (x inner) holds(s api.Schema) bool {
	return checkAll(s, x.msgs) == api.OK
}

func (x inner) within(s api.Schema, c api.Config) bool {
	return len(x.kids) <= c.Fanout && sizeOf(s, x.msgs) <= c.Buffer
}

// differentBlocks: more of them than there are blocks are not looked at.
func differentBlocks(kids []int) bool {
	if len(kids) > api.MaxBlocks {
		return false
	}
	var met [api.MaxBlocks]bool
	for _, kid := range kids {
		if kid < 0 || kid >= api.MaxBlocks || met[kid] {
			return false
		}
		met[kid] = true
	}
	return true
}

// checkAll: the error of the first message that has one.
func checkAll(s api.Schema, ms []api.Message) api.Errno {
	for _, m := range ms {
		if e := message.Check(s, m); e != api.OK {
			return e
		}
	}
	return api.OK
}

// Entries, messages and pivots stand in the order of their keys.

func entryKey(e api.Entry) string     { return e.Key }
func messageKey(m api.Message) string { return m.Key }
func itself(pivot string) string      { return pivot }

func byKey(a, b api.Message) int {
	return strings.Compare(a.Key, b.Key)
}

// rising: is each key above the one ahead of it?
func rising[Item any](list []Item, key func(Item) string) bool {
	for i := 1; i < len(list); i++ {
		if key(list[i-1]) >= key(list[i]) {
			return false
		}
	}
	return true
}

func allKeys[Item any](list []Item, key func(Item) string) bool {
	for _, item := range list {
		if message.CheckKey(key(item)) != api.OK {
			return false
		}
	}
	return true
}
