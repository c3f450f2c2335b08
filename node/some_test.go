package node_test

import (
	"slices"
	"strings"

	"arbor/api"
	"arbor/drill"
)

// Nodes by chance that are sound, of all sizes.

// someKeys: up to so many, which rise; short and long ones, of few letters, so that one often begins another.
func someKeys(numbers *drill.Numbers, most int) []string {
	var keys []string
	for range numbers.Below(most + 1) {
		keys = append(keys, someKey(numbers))
	}
	slices.Sort(keys)
	return slices.Compact(keys)
}

func someKey(numbers *drill.Numbers) string {
	if numbers.Below(5) == 0 {
		return drill.Pick(numbers, drill.Keys())
	}
	key := ""
	for range 1 + numbers.Below(3) {
		key += drill.Pick(numbers, []string{"a", "b", "c", "k", "\x00", "\xff"})
	}
	return key
}

func someLeaf(f drill.Fitting, most int) api.Node {
	n := api.Node{Level: 1}
	for _, key := range someKeys(f.Numbers, most) {
		n.Entries = append(n.Entries, api.Entry{Key: key, Vals: f.Record()})
	}
	return n
}

// someInner: some of its messages have one key, or a pivot as their key.
func someInner(f drill.Fitting, mostKids, mostMsgs int) api.Node {
	n := api.Node{Level: 2 + f.Numbers.Below(4), Pivots: someKeys(f.Numbers, mostKids-1)}
	if f.Numbers.Below(10) == 0 {
		n.Level = 255
	}
	start := f.Numbers.Below(api.MaxBlocks)
	for i := range len(n.Pivots) + 1 {
		n.Kids = append(n.Kids, (start+i*7)%api.MaxBlocks)
	}
	for range f.Numbers.Below(mostMsgs + 1) {
		n.Msgs = append(n.Msgs, f.Message(someKeyOf(f.Numbers, n)))
	}
	slices.SortStableFunc(n.Msgs, func(a, b api.Message) int { return strings.Compare(a.Key, b.Key) })
	return n
}

// someKeyOf: any, or one that stands in the node already.
func someKeyOf(numbers *drill.Numbers, n api.Node) string {
	known := slices.Concat(n.Pivots, keysOf(n.Entries), keysOfMessages(n.Msgs))
	if len(known) > 0 && numbers.Below(2) == 0 {
		return drill.Pick(numbers, known)
	}
	return someKey(numbers)
}

// someMessages: up to so many, in any order of keys.
func someMessages(f drill.Fitting, n api.Node, most int) []api.Message {
	var ms []api.Message
	for range f.Numbers.Below(most + 1) {
		key := someKeyOf(f.Numbers, n)
		if len(ms) > 0 && f.Numbers.Below(3) == 0 {
			key = drill.Pick(f.Numbers, ms).Key
		}
		ms = append(ms, f.Message(key))
	}
	return ms
}

// someNodes: leaves and inner nodes in turn, of each schema.
func someNodes(seed drill.Numbers, tries int, each func(f drill.Fitting, n api.Node)) {
	for _, s := range drill.Schemas() {
		f := drill.Fitting{Schema: s, Numbers: &seed}
		for i := range tries {
			switch i % 6 {
			case 0:
				each(f, someLeaf(f, 4))
			case 1:
				each(f, someLeaf(f, 70))
			case 2, 3:
				each(f, someInner(f, 5, 6))
			case 4:
				each(f, someInner(f, 70, 3))
			default:
				each(f, someInner(f, 3, 40))
			}
		}
	}
}
