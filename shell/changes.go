package shell

import (
	"arbor/api"
	"arbor/lower"
	"arbor/value"
)

// putLine: a key gets a record.
type putLine struct {
	key, record string
}

func (putLine) read(l *line) command {
	return putLine{key: l.key(), record: l.rest()}
}

func (c putLine) play(s *session) string {
	// A batch without room says so whatever the record's text is.
	if s.full() {
		return fault(api.ErrBatch)
	}
	vals, e := value.Parse(s.store.Schema(), c.record)
	if e != api.OK {
		return fault(e)
	}
	if s.noting {
		return s.note(api.Change{Kind: api.MPut, Key: c.key, Vals: vals})
	}
	return doneOr(s.store.Put(c.key, vals...))
}

// deleteLine: a key has no record any more.
type deleteLine struct {
	key string
}

func (deleteLine) read(l *line) command {
	return deleteLine{key: l.key()}
}

func (c deleteLine) play(s *session) string {
	if s.noting {
		return s.note(api.Change{Kind: api.MDelete, Key: c.key})
	}
	return doneOr(s.store.Delete(c.key))
}

// upsertLine: a key gets what a program makes of its row.
type upsertLine struct {
	key, source string
}

func (upsertLine) read(l *line) command {
	return upsertLine{key: l.key(), source: l.rest()}
}

func (c upsertLine) play(s *session) string {
	if s.noting {
		return s.note(api.Change{Kind: api.MUpsert, Key: c.key, Src: c.source})
	}
	e := s.store.Upsert(c.key, c.source)
	if e == api.OK {
		return done
	}
	// The store does not tell the place, and what else it refuses a change for is no error of the compiler.
	if _, compiled, at := lower.Compile(s.store.Schema(), c.source); compiled == e {
		return faultAt(e, at)
	}
	return fault(e)
}

// full: is there no room for a further change in the batch that is open?
func (s *session) full() bool {
	return len(s.changes) >= api.MaxBatch
}

// note: a change that is to be done with the batch.
func (s *session) note(c api.Change) string {
	if s.full() {
		return fault(api.ErrBatch)
	}
	s.changes = append(s.changes, c)
	return "noted"
}

// batchLine: from now on changes are noted.
type batchLine struct{}

func (c batchLine) read(*line) command { return c }

func (batchLine) play(s *session) string {
	if s.noting {
		return fault(api.ErrBatch)
	}
	s.noting = true
	return done
}

// applyLine: what was noted is done, as one call.
type applyLine struct{}

func (c applyLine) read(*line) command { return c }

func (applyLine) play(s *session) string {
	if !s.noting {
		return fault(api.ErrBatch)
	}
	return doneOr(s.store.Apply(s.endBatch()...))
}

// forgetLine: what was noted is not done.
type forgetLine struct{}

func (c forgetLine) read(*line) command { return c }

func (forgetLine) play(s *session) string {
	if !s.noting {
		return fault(api.ErrBatch)
	}
	s.endBatch()
	return done
}
