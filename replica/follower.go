package replica

import (
	"arbor/api"
	"arbor/store"
)

// Follower: a store that plays another one's calls; it began behind the call number base of that.
type Follower struct {
	store *store.Store
	base  uint64
}

// NewFollower: a store that holds what the primary held behind its call number base + st.Seq().
func NewFollower(st *store.Store, base uint64) (*Follower, api.Errno) {
	if st == nil {
		return nil, api.ErrArg
	}
	return &Follower{store: st, base: base}, api.OK
}

// Seq: behind which call of the primary the follower's store is. Each call that is played counts in the store's own number: so this one is right behind a loss of power too.
func (f *Follower) Seq() uint64 {
	if f == nil {
		return 0
	}
	return f.base + f.store.Seq()
}

// Feed: one part: the next call is played, an older one is passed over.
func (f *Follower) Feed(part []byte) api.Errno {
	if f == nil {
		return api.ErrArg
	}
	number, cs, ok := callOf(part, f.store.Schema())
	seq := f.Seq()
	switch {
	case !ok:
		return api.ErrWire
	case number <= seq:
		return api.OK
	case number > seq+1:
		return api.ErrGap
	}
	return f.store.Apply(cs...)
}
