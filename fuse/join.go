package fuse

import (
	"slices"

	"arbor/api"
	"arbor/code"
	"arbor/message"
	"arbor/slack"
)

// asOne: the one message that two can be, if they can.
func asOne(s api.Schema, most int, a, b api.Message) (one api.Message, ok bool) {
	switch {
	case b.Kind != api.MUpsert:
		return b, true
	case a.Kind != api.MUpsert:
		return outcome(s, a, b), true
	default:
		return oneUpsert(s, most, a, b)
	}
}

// outcome: what an upsert behind a put or a delete comes to is known now: the row ahead of them plays no part.
func outcome(s api.Schema, a, b api.Message) api.Message {
	row, _ := message.ApplyAll(s, api.Row{}, a, b)
	if !row.Here {
		return api.Message{Kind: api.MDelete, Key: b.Key}
	}
	return api.Message{Kind: api.MPut, Key: b.Key, Vals: row.Vals}
}

func oneUpsert(s api.Schema, most int, a, b api.Message) (one api.Message, ok bool) {
	first, _ := code.Decode(a.Code)
	second, _ := code.Decode(b.Code)
	is, ok := concatWithin(s, most, first, second)
	if !ok {
		return api.Message{}, false
	}
	raw, _ := code.Encode(is...)
	return api.Message{Kind: api.MUpsert, Key: b.Key, Code: raw}, true
}

// concatWithin: one code for two that may be run, if their joint size is at most most.
func concatWithin(s api.Schema, most int, a, b []api.Ins) (is []api.Ins, ok bool) {
	// Two codes meet where the last sum of the first and the first one of the second would be slack: so what is laid down here has their joint size.
	whole := slack.Joined(slices.Concat(a, b), len(a)-2)
	raw, e := code.Encode(whole...)
	if e != api.OK || len(raw) > most {
		return nil, false
	}
	return slack.Removed(s, whole), true
}
