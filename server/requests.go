package server

import (
	"arbor/api"
	"arbor/query"
	"arbor/txn"
	"arbor/wire"
)

// everything: a limit above what any store holds.
const everything = 1 << 62

// serve: the parts of a session's stream, one behind the other: the bytes that go back.
func (s *Server) serve(who *session, parts <-chan part) []byte {
	var back []byte
	for p := range parts {
		b, _ := wire.EncodeReply(s.schema, s.reply(who, p))
		back = append(back, b...)
	}
	return back
}

// reply: to a part. With an error there is nothing else in it but the request's number: who refuses answers nothing else, and a transaction that has only read is never refused behind that.
func (s *Server) reply(who *session, p part) api.Reply {
	if p.broken {
		who.giveUp()
		who.broken = true
	}
	if p.refused != api.OK {
		return api.Reply{Err: p.refused}
	}
	told := s.done(who, p.request)
	told.Id = p.request.Id
	return told
}

// done: a request is done: what is to be told of it.
func (s *Server) done(who *session, r api.Request) (told api.Reply) {
	switch r.Op {
	case api.ROpen:
		told.Err = s.begin(who)
	case api.RCommit:
		told.Err = who.end((*txn.Txn).Commit)
	case api.RAbort:
		told.Err = who.end((*txn.Txn).Abort)
	case api.RGet:
		told.Row, told.Err = s.get(who, r.Key)
	case api.RScan:
		told.Rows, told.Err = s.scan(who, r.Key, r.Hi, int(min(r.N, api.MaxRows)))
	case api.RPut:
		told.Err = s.within(who, func(t *txn.Txn) api.Errno { return t.Put(r.Key, r.Vals...) })
	case api.RDelete:
		told.Err = s.within(who, func(t *txn.Txn) api.Errno { return t.Delete(r.Key) })
	case api.RUpsert:
		told.Err = s.within(who, func(t *txn.Txn) api.Errno { return t.Upsert(r.Key, r.Src) })
	case api.RQuery:
		told.Rows, told.Value, told.Err = s.query(who, r)
	case api.RSync:
		told.Err = s.store.Sync()
	case api.RSeq:
		told.N = s.store.Seq()
	}
	return told
}

// begin: the session has an open transaction.
func (s *Server) begin(who *session) (e api.Errno) {
	if who.open != nil {
		return api.ErrOrder
	}
	who.open, e = s.manager.Begin()
	return e
}

// within: a call of the session's open transaction; if it has none, of a new one, that ends with it.
func (s *Server) within(who *session, call func(*txn.Txn) api.Errno) api.Errno {
	if who.open != nil {
		return call(who.open)
	}
	own, e := s.manager.Begin()
	if e != api.OK {
		return e
	}
	if e := call(own); e != api.OK {
		own.Abort()
		return e
	}
	return own.Commit()
}

func (s *Server) get(who *session, key string) (row api.Row, e api.Errno) {
	e = s.within(who, func(t *txn.Txn) (e api.Errno) {
		row, e = t.Get(key)
		return e
	})
	return row, e
}

func (s *Server) scan(who *session, lo, hi string, limit int) (list []api.Entry, e api.Errno) {
	e = s.within(who, func(t *txn.Txn) (e api.Errno) {
		list, e = t.Scan(lo, hi, limit)
		return e
	})
	return list, e
}

// query: what a query says of all entries of a range: its first rows, or its value. One that may not be asked reads nothing.
func (s *Server) query(who *session, r api.Request) ([]api.Entry, api.Value, api.Errno) {
	q, e, _ := query.Parse(r.Src)
	if e == api.OK {
		e = query.Check(s.schema, q)
	}
	if e != api.OK {
		return nil, api.Value{}, e
	}
	list, e := s.scan(who, r.Key, r.Hi, everything)
	if e != api.OK {
		return nil, api.Value{}, e
	}
	a, e := query.Over(s.schema, list, q)
	return a.Rows[:min(len(a.Rows), api.MaxRows)], a.Value, e
}
