package wire

import (
	"arbor/api"
	"arbor/value"
)

// maxErr: the greatest number of an error that has room in a reply.
const maxErr = 1<<16 - 1

// checkReply: may it be written?
func checkReply(s api.Schema, r api.Reply) api.Errno {
	if e := value.CheckSchema(s); e != api.OK {
		return e
	}
	switch {
	case r.Err < 0 || r.Err > maxErr || !whole(r.Value):
		return api.ErrWire
	case len(r.Rows) > api.MaxRows:
		return api.ErrHuge
	case !isRow(s, r.Row) || !areEntries(s, r.Rows):
		return api.ErrValue
	default:
		return api.OK
	}
}

// whole: does a value hold just what its kind asks for?
func whole(v api.Value) bool {
	switch v.Kind {
	case api.None:
		return v.N == 0 && v.S == ""
	case api.Int:
		return v.S == ""
	case api.Bool:
		return (v.N == 0 || v.N == 1) && v.S == ""
	case api.Bytes:
		return v.N == 0 && len(v.S) <= api.MaxBytes
	default:
		return false
	}
}

func isRow(s api.Schema, row api.Row) bool {
	if !row.Here {
		return len(row.Vals) == 0
	}
	return value.Check(s, row.Vals) == api.OK
}

func areEntries(s api.Schema, list []api.Entry) bool {
	for _, entry := range list {
		if len(entry.Key) < 1 || len(entry.Key) > api.MaxKey || value.Check(s, entry.Vals) != api.OK {
			return false
		}
	}
	return true
}

// replyWriter: writes a reply that may be written.
type replyWriter struct {
	writer
}

func (w *replyWriter) body(r api.Reply) {
	w.number(uint64(r.Err), 2)
	w.number(r.N, 8)
	w.row(r.Row)
	w.value(r.Value)
	w.number(uint64(len(r.Rows)), 2)
	for _, entry := range r.Rows {
		w.short(entry.Key)
		w.record(entry.Vals)
	}
}

func (w *replyWriter) row(row api.Row) {
	if !row.Here {
		w.number(0, 1)
		return
	}
	w.number(1, 1)
	w.record(row.Vals)
}

func (w *replyWriter) value(v api.Value) {
	w.number(uint64(v.Kind), 1)
	switch v.Kind {
	case api.Int:
		w.number(uint64(v.N), 8)
	case api.Bool:
		w.number(uint64(v.N), 1)
	case api.Bytes:
		w.short(v.S)
	}
}

// reply: what its writer wrote.
func (r *reader) reply() api.Reply {
	return api.Reply{
		Id:    r.id(),
		Err:   api.Errno(r.number(2)),
		N:     r.number(8),
		Row:   r.row(),
		Value: r.value(),
		Rows:  listOf(r, 2, r.entry),
	}
}

// row: it is written as a list of at most one record.
func (r *reader) row() api.Row {
	records := listOf(r, 1, r.record)
	if len(records) != 1 {
		return api.Row{}
	}
	return api.Row{Here: true, Vals: records[0]}
}

func (r *reader) value() api.Value {
	v := api.Value{Kind: int(r.number(1))}
	switch v.Kind {
	case api.Int:
		v.N = int64(r.number(8))
	case api.Bool:
		v.N = int64(r.number(1))
	case api.Bytes:
		v.S = r.short()
	}
	return v
}

func (r *reader) entry() api.Entry {
	return api.Entry{Key: r.short(), Vals: r.record()}
}
