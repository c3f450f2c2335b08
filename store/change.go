package store

import (
	"arbor/api"
	"arbor/layout"
	"arbor/lower"
	"arbor/message"
	"arbor/value"
	"arbor/wal"
)

// messages: those of a call's changes.
func (s *Store) messages(cs []api.Change) ([]api.Message, api.Errno) {
	if len(cs) == 0 || len(cs) > api.MaxBatch {
		return nil, api.ErrBatch
	}
	var list []api.Message
	for _, c := range cs {
		m, e := s.message(c)
		if e != api.OK {
			return nil, e
		}
		list = append(list, m)
	}
	return list, api.OK
}

// message: that of a change. It shares the change's values.
func (s *Store) message(c api.Change) (api.Message, api.Errno) {
	m := api.Message{Kind: c.Kind, Key: c.Key}
	e := message.CheckKey(c.Key)
	if e != api.OK {
		return api.Message{}, e
	}
	hasVals, hasSrc := len(c.Vals) > 0, c.Src != ""
	switch {
	case c.Kind == api.MPut && !hasSrc:
		m.Vals, e = c.Vals, value.Check(s.schema, c.Vals)
	case c.Kind == api.MDelete && !hasVals && !hasSrc:
	case c.Kind == api.MUpsert && !hasVals:
		m.Code, e, _ = lower.Compile(s.schema, c.Src)
	default:
		e = api.ErrMessage
	}
	return m, e
}

// accept: a call's messages are in the tree, and the call is in the log, or in a commit. The pages come ahead of the log: they are in blocks that no commit names, and mean nothing until one does.
func (s *Store) accept(ms []api.Message) api.Errno {
	if e := s.apply(ms); e != api.OK {
		return e
	}
	next := s.seq + 1
	e := s.log.Append(recordOf(s.schema, next, ms))
	if e == api.ErrLogFull {
		e = s.commit(next)
	}
	if e == api.OK {
		s.seq = next
	}
	return e
}

// apply: the messages are in the tree. Where it has no room for them, a commit gives back the blocks that only the commit ahead of it needed.
func (s *Store) apply(ms []api.Message) api.Errno {
	e := s.tree.Apply(ms...)
	if e == api.ErrFull {
		if e := s.commit(s.seq); e != api.OK {
			return e
		}
		e = s.tree.Apply(ms...)
	}
	if e == api.ErrFull {
		s.readOnly = true
		return e
	}
	return powerOrDamage(e)
}

// commit: what the tree holds is durable, behind so many calls, and the log begins anew.
func (s *Store) commit(seq uint64) api.Errno {
	e := s.pages.Commit(s.tree.Root(), s.catalog, seq)
	if e != api.OK {
		return e
	}
	s.log, e = wal.Start(s.disk, layout.LogAt, s.pages.Geometry().Log, s.pages.Super().Gen)
	return e
}

// powerOrDamage: why a layer below refuses what it was rightly asked for: the power is gone, or pages are not as they were written. (Of pages that no store wrote it may say more than that.)
func powerOrDamage(e api.Errno) api.Errno {
	if e == api.OK || e == api.ErrPower {
		return e
	}
	return api.ErrDamaged
}
