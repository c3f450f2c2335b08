package store

import (
	"arbor/api"
	"arbor/little"
	"arbor/message"
)

// The places in a log record.
const (
	atNumber   = 0
	atCount    = 8
	atMessages = 9
)

// recordOf: the log record of a call: its number and its messages, of the schema.
func recordOf(s api.Schema, number uint64, ms []api.Message) []byte {
	b := make([]byte, atMessages)
	little.Put(b[atNumber:atCount], number)
	little.Put(b[atCount:atMessages], uint64(len(ms)))
	for _, m := range ms {
		raw, _ := message.Encode(s, m)
		b = append(b, raw...)
	}
	return b
}

// messagesIn: those of a log record, if it is one of the schema for the call of that number.
func messagesIn(record []byte, s api.Schema, number uint64) ([]api.Message, bool) {
	if len(record) < atMessages || little.Number(record[atNumber:atCount]) != number {
		return nil, false
	}
	count := int(little.Number(record[atCount:atMessages]))
	if count < 1 || count > api.MaxBatch {
		return nil, false
	}
	var list []api.Message
	rest := record[atMessages:]
	for range count {
		m, taken, e := message.Decode(s, rest)
		if e != api.OK {
			return nil, false
		}
		list, rest = append(list, m), rest[taken:]
	}
	return list, len(rest) == 0
}
