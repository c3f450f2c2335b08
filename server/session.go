package server

import (
	"arbor/api"
	"arbor/txn"
	"arbor/wire"
)

// session: one client's stream.
type session struct {
	splitter *wire.Splitter
	open     *txn.Txn // nil, if it has no open transaction
	broken   bool
}

// part: of a session's stream: a request; or, if it is refused, none. The last part may be where the stream is broken.
type part struct {
	request api.Request
	refused api.Errno
	broken  bool
}

func newSession() *session {
	return &session{splitter: wire.NewSplitter()}
}

// cut: the parts of the stream that are whole with a piece, over a channel that has room for all of them and is closed: who cuts waits for nobody who serves.
func (who *session) cut(s api.Schema, piece []byte) <-chan part {
	list, e := who.splitter.Feed(piece)
	parts := make(chan part, len(list)+1)
	defer close(parts)
	for _, b := range list {
		r, refused := wire.DecodeRequest(s, b)
		parts <- part{request: r, refused: refused}
	}
	if e != api.OK && !who.broken {
		parts <- part{refused: e, broken: true}
	}
	return parts
}

// end: its open transaction ends, in one way or the other, whatever that answers.
func (who *session) end(way func(*txn.Txn) api.Errno) api.Errno {
	if who.open == nil {
		return api.ErrOrder
	}
	open := who.open
	who.open = nil
	return way(open)
}

// giveUp: nothing of its open transaction stays, if it has one.
func (who *session) giveUp() {
	who.end((*txn.Txn).Abort)
}
