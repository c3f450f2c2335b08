package node

import (
	"slices"
	"strings"

	"arbor/api"
	"arbor/fresh"
	"arbor/fuse"
	"arbor/message"
	"arbor/value"
)

// Add: an inner node with more messages: each key's are fused.
func Add(s api.Schema, n api.Node, ms ...api.Message) (api.Node, api.Errno) {
	if e := value.CheckSchema(s); e != api.OK {
		return api.Node{}, e
	}
	switch x := soundOf(s, n).(type) {
	case inner:
		if e := checkAll(s, ms); e != api.OK {
			return api.Node{}, e
		}
		return x.added(s, ms), api.OK
	default:
		return api.Node{}, api.ErrNode
	}
}

// Apply: a leaf behind messages.
func Apply(s api.Schema, n api.Node, ms ...api.Message) (api.Node, api.Errno) {
	if e := value.CheckSchema(s); e != api.OK {
		return api.Node{}, e
	}
	switch x := soundOf(s, n).(type) {
	case leaf:
		if e := checkAll(s, ms); e != api.OK {
			return api.Node{}, e
		}
		return x.applied(s, ms), api.OK
	default:
		return api.Node{}, api.ErrNode
	}
}

// added: of messages that may be.
func (x inner) added(s api.Schema, ms []api.Message) api.Node {
	n := x.bare()
	n.Pivots, n.Kids = slices.Clone(x.pivots), slices.Clone(x.kids)
	n.Msgs = woven(fresh.Messages(x.msgs), messageKey, ms, func(_ string, waiting, come []api.Message) []api.Message {
		fused, _ := fuse.Fuse(s, api.MaxCode, slices.Concat(waiting, come)...)
		return fused
	})
	return n
}

// applied: of messages that may be.
func (l leaf) applied(s api.Schema, ms []api.Message) api.Node {
	n := l.bare()
	n.Entries = woven(fresh.Entries(l.entries), entryKey, ms, func(key string, own []api.Entry, come []api.Message) []api.Entry {
		row, _ := message.ApplyAll(s, rowOf(own), come...)
		if !row.Here {
			return nil
		}
		return []api.Entry{{Key: key, Vals: row.Vals}}
	})
	return n
}

// rowOf: what a leaf has under a key: one entry, or none.
func rowOf(own []api.Entry) api.Row {
	if len(own) == 0 {
		return api.Row{}
	}
	return api.Row{Here: true, Vals: own[0].Vals}
}

// woven: items that stand in the order of their keys, in which those of each key that messages have gave way to what they and those messages come to.
func woven[Item any](items []Item, keyOf func(Item) string, ms []api.Message, outcome func(key string, own []Item, come []api.Message) []Item) []Item {
	ms = slices.Clone(ms)
	slices.SortStableFunc(ms, byKey)
	var list []Item
	for len(ms) > 0 {
		key := ms[0].Key
		start := firstFrom(items, keyOf, key)
		end, come := start+ofKey(items[start:], keyOf, key), ofKey(ms, messageKey, key)
		list = append(list, items[:start]...)
		list = append(list, outcome(key, items[start:end], ms[:come])...)
		items, ms = items[end:], ms[come:]
	}
	return append(list, items...)
}

// firstFrom: the place of the first item whose key is not below one.
func firstFrom[Item any](items []Item, keyOf func(Item) string, key string) int {
	place, _ := slices.BinarySearchFunc(items, key, func(item Item, key string) int { return strings.Compare(keyOf(item), key) })
	return place
}

// ofKey: with how many items of a key a list begins.
func ofKey[Item any](items []Item, keyOf func(Item) string, key string) int {
	many := 0
	for many < len(items) && keyOf(items[many]) == key {
		many++
	}
	return many
}
