package shell

import (
	"strconv"

	"arbor/api"
	"arbor/disk"
	"arbor/store"
	"arbor/value"
)

// What the transcript says in several places.
const (
	done  = "ok"
	noRow = "none"
)

// session: what the lines of a script have made so far: a disk, or nil; the store that is open on it, or nil; whether a batch is open, and what is noted in it.
type session struct {
	disk    *disk.Disk
	store   *store.Store
	noting  bool
	changes []api.Change
}

// answer: what the transcript says to a line.
func (s *session) answer(words map[string]command, text string) string {
	c, ok := commandOf(words, text)
	if !ok {
		return fault(api.ErrLine)
	}
	return c.play(s)
}

// use: from now on this disk with this store (nil: none is open). A batch was one of the store that is given up.
func (s *session) use(d *disk.Disk, st *store.Store) {
	*s = session{disk: d, store: st}
}

// endBatch: what was noted; from now on no batch is open.
func (s *session) endBatch() []api.Change {
	changes := s.changes
	s.noting, s.changes = false, nil
	return changes
}

// fault: what the transcript says of an error.
func fault(e api.Errno) string {
	return "error " + strconv.Itoa(int(e))
}

// faultAt: of one with its place.
func faultAt(e api.Errno, at int) string {
	return fault(e) + " at " + strconv.Itoa(at)
}

// doneOr: of a call that has nothing else to answer.
func doneOr(e api.Errno) string {
	if e != api.OK {
		return fault(e)
	}
	return done
}

// rowOr: of a call that answers a row of the schema.
func rowOr(s api.Schema, row api.Row, e api.Errno) string {
	switch {
	case e != api.OK:
		return fault(e)
	case !row.Here:
		return noRow
	}
	return "row " + recordText(s, row.Vals)
}

// recordText: of a record that the schema is known to have.
func recordText(s api.Schema, vals []api.Value) string {
	text, _ := value.Print(s, vals)
	return text
}
