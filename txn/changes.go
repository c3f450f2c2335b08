package txn

import (
	"slices"

	"arbor/api"
	"arbor/lower"
	"arbor/message"
	"arbor/value"
)

// Put: a change of the transaction.
func (t *Txn) Put(key string, vals ...api.Value) api.Errno {
	if e := t.refusalOf(key); e != api.OK {
		return e
	}
	record, e := value.Make(t.manager.schema, vals...)
	if e != api.OK {
		return e
	}
	return t.take(api.Change{Kind: api.MPut, Key: key, Vals: record}, nil)
}

// Delete: a change of the transaction.
func (t *Txn) Delete(key string) api.Errno {
	if e := t.refusalOf(key); e != api.OK {
		return e
	}
	return t.take(api.Change{Kind: api.MDelete, Key: key}, nil)
}

// Upsert: a change of the transaction, which reads nothing.
func (t *Txn) Upsert(key string, src string) api.Errno {
	if e := t.refusalOf(key); e != api.OK {
		return e
	}
	code, e, _ := lower.Compile(t.manager.schema, src)
	if e != api.OK {
		return e
	}
	return t.take(api.Change{Kind: api.MUpsert, Key: key, Src: src}, code)
}

// refusalOf: of a call about a key.
func (t *Txn) refusalOf(key string) api.Errno {
	if e := t.refusal(); e != api.OK {
		return e
	}
	return message.CheckKey(key)
}

// take: a change, with the code of an upsert, is the transaction's last one.
func (t *Txn) take(c api.Change, code []byte) api.Errno {
	if len(t.changes) == api.MaxBatch {
		return api.ErrBatch
	}
	t.changes = append(t.changes, c)
	t.messages = append(t.messages, api.Message{Kind: c.Kind, Key: c.Key, Vals: c.Vals, Code: code})
	return api.OK
}

// onTop: what the transaction's own changes make of a key's row, in new memory. The row and the messages are of the schema, so that nothing is refused.
func (t *Txn) onTop(key string, row api.Row) api.Row {
	var own []api.Message
	for _, m := range t.messages {
		if m.Key == key {
			own = append(own, m)
		}
	}
	row, _ = message.ApplyAll(t.manager.schema, row, own...)
	return row
}

// settles: do some changes say all about a key, whatever its row was?
func settles(changes []api.Change, key string) bool {
	return slices.ContainsFunc(changes, func(c api.Change) bool { return c.Key == key && c.Kind != api.MUpsert })
}
