package node

import (
	"slices"
	"sort"

	"arbor/api"
	"arbor/fresh"
	"arbor/message"
)

// Child: the place of the kid that a key belongs to.
func Child(n api.Node, key string) int {
	place := 0
	for _, pivot := range n.Pivots {
		if pivot <= key {
			place++
		}
	}
	return place
}

// Waiting: how many bytes the messages that wait have.
func Waiting(s api.Schema, n api.Node) int {
	return sizeOf(s, n.Msgs)
}

// Fullest: the place of the kid for which the most bytes wait; of several the first.
func Fullest(s api.Schema, n api.Node) int {
	if len(n.Kids) == 0 {
		return 0
	}
	waiting, places := make([]int, len(n.Kids)), placesOf(n)
	for _, m := range n.Msgs {
		if place := places.of(m.Key); place < len(waiting) {
			waiting[place] += message.Size(s, m)
		}
	}
	return slices.Index(waiting, slices.Max(waiting))
}

// Draw: the messages that wait for a kid, and the node without them.
func Draw(n api.Node, kid int) ([]api.Message, api.Node, api.Errno) {
	if kid < 0 || kid >= len(n.Kids) {
		return nil, api.Node{}, api.ErrArg
	}
	var drawn, stay []api.Message
	places := placesOf(n)
	for _, m := range n.Msgs {
		if places.of(m.Key) == kid {
			drawn = append(drawn, m)
		} else {
			stay = append(stay, m)
		}
	}
	n.Msgs = stay
	return fresh.Messages(drawn), fresh.Node(n), api.OK
}

func sizeOf(s api.Schema, ms []api.Message) int {
	size := 0
	for _, m := range ms {
		size += message.Size(s, m)
	}
	return size
}

// places: a node's pivots in rising order, though in the node they may not be: how many are at most a key hangs on no order, and is soon found so for many keys.
type places []string

func placesOf(n api.Node) places {
	return slices.Sorted(slices.Values(n.Pivots))
}

func (p places) of(key string) int {
	return sort.Search(len(p), func(i int) bool { return p[i] > key })
}
