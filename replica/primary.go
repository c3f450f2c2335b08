package replica

import (
	"bytes"
	"slices"

	"arbor/api"
	"arbor/store"
)

// Primary: a store, and the parts of the calls that it accepted behind the number trimmed, in their order.
type Primary struct {
	store   *store.Store
	trimmed uint64
	parts   [][]byte
}

// NewPrimary: the calls of a store from now on.
func NewPrimary(st *store.Store) (*Primary, api.Errno) {
	if st == nil {
		return nil, api.ErrArg
	}
	return &Primary{store: st, trimmed: st.Seq()}, api.OK
}

// Apply: a call of the store; an accepted one is kept.
func (p *Primary) Apply(cs ...api.Change) api.Errno {
	if p == nil {
		return api.ErrArg
	}
	e := p.store.Apply(cs...)
	if e == api.OK {
		p.parts = append(p.parts, partOf(p.store.Schema(), p.store.Seq(), cs))
	}
	return e
}

// Seq: how many calls the store has accepted.
func (p *Primary) Seq() uint64 {
	if p == nil {
		return 0
	}
	return p.store.Seq()
}

// Since: the calls behind the number seq, as parts, at most so many.
func (p *Primary) Since(seq uint64, most int) ([][]byte, api.Errno) {
	if p == nil || most < 0 {
		return nil, api.ErrArg
	}
	if seq > p.Seq() || seq < p.trimmed {
		return nil, api.ErrGap
	}
	asked := p.behind(seq)
	asked = asked[:min(most, len(asked))]
	if len(asked) == 0 {
		return nil, api.OK
	}
	// A follower's disk may outlive this one's power: what it is given has to outlive that, too.
	if e := p.store.Sync(); e != api.OK {
		return nil, e
	}
	list := make([][]byte, len(asked))
	for i, part := range asked {
		list[i] = bytes.Clone(part)
	}
	return list, api.OK
}

// Trim: the calls up to the number seq are not kept any more.
func (p *Primary) Trim(seq uint64) api.Errno {
	if p == nil {
		return api.ErrArg
	}
	if seq > p.Seq() {
		return api.ErrGap
	}
	if seq > p.trimmed {
		p.parts = slices.Clone(p.behind(seq)) // a piece of the old list would keep all of it in memory
		p.trimmed = seq
	}
	return api.OK
}

// behind: the parts that are kept of the calls behind a number from trimmed on. Of a store that was changed beside its primary there are fewer than its Seq says.
func (p *Primary) behind(seq uint64) [][]byte {
	return p.parts[min(seq-p.trimmed, uint64(len(p.parts))):]
}
