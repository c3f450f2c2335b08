package wire

import (
	"arbor/api"
	"arbor/value"
)

// The bounds of the texts of a request.
const (
	maxShort = 255
	maxLong  = 1024
)

// form: what an operation uses of a request.
type form struct {
	key, hi, n, vals, src bool
}

// forms: by operation.
var forms = [...]form{
	api.ROpen:   {},
	api.RCommit: {},
	api.RAbort:  {},
	api.RGet:    {key: true},
	api.RScan:   {key: true, hi: true, n: true},
	api.RPut:    {key: true, vals: true},
	api.RDelete: {key: true},
	api.RUpsert: {key: true, src: true},
	api.RQuery:  {key: true, hi: true, src: true},
	api.RSync:   {},
	api.RSeq:    {},
}

// formOf: of an operation, if there is such a one.
func formOf(op int) (f form, ok bool) {
	if op < api.ROpen || op >= len(forms) {
		return form{}, false
	}
	return forms[op], true
}

// checkRequest: may it be written?
func checkRequest(s api.Schema, r api.Request) api.Errno {
	if e := value.CheckSchema(s); e != api.OK {
		return e
	}
	f, ok := formOf(r.Op)
	switch {
	case !ok || !f.allows(r):
		return api.ErrWire
	case len(r.Key) > maxShort || len(r.Hi) > maxShort || len(r.Src) > maxLong:
		return api.ErrHuge
	case f.vals:
		return value.Check(s, r.Vals)
	default:
		return api.OK
	}
}

// allows: is all that is not used empty?
func (f form) allows(r api.Request) bool {
	return (f.key || r.Key == "") && (f.hi || r.Hi == "") && (f.n || r.N == 0) && (f.vals || len(r.Vals) == 0) && (f.src || r.Src == "")
}

// requestWriter: writes a request that may be written.
type requestWriter struct {
	writer
}

func (w *requestWriter) body(r api.Request) {
	w.number(uint64(r.Op), 1)
	f, _ := formOf(r.Op)
	if f.key {
		w.short(r.Key)
	}
	if f.hi {
		w.short(r.Hi)
	}
	if f.n {
		w.number(uint64(r.N), 8)
	}
	if f.vals {
		w.record(r.Vals)
	}
	if f.src {
		w.long(r.Src)
	}
}

// request: what its writer wrote.
func (r *reader) request() api.Request {
	q := api.Request{Id: r.id(), Op: int(r.number(1))}
	f, _ := formOf(q.Op)
	if f.key {
		q.Key = r.short()
	}
	if f.hi {
		q.Hi = r.short()
	}
	if f.n {
		q.N = int64(r.number(8))
	}
	if f.vals {
		q.Vals = r.record()
	}
	if f.src {
		q.Src = r.long()
	}
	return q
}
