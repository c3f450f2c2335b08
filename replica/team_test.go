package replica_test

import (
	"bytes"
	"slices"
	"testing"

	"arbor/api"
	"arbor/disk"
	"arbor/drill"
	"arbor/replica"
	"arbor/store"
)

// shot: what a disk is at a time.
type shot struct {
	image   []byte
	pending []api.Write
	stats   api.DiskStats
	dead    bool
}

func shotOf(d *disk.Disk) shot {
	return shot{d.Image(), d.Pending(), d.Stats(), d.Dead()}
}

func (a shot) same(b shot) bool {
	return bytes.Equal(a.image, b.image) && drill.SameWrites(a.pending, b.pending) && a.stats == b.stats && a.dead == b.dead
}

// synced: what the disk is behind one flush.
func (a shot) synced(size int) shot {
	b := shot{image: bytes.Clone(a.image), stats: a.stats}
	for _, w := range a.pending {
		copy(b.image[w.At*size:], w.Bytes)
	}
	b.stats.Flushes++
	return b
}

// lead: a primary over a shop, and the book of it: the map behind each call from the first on, and the parts of the calls.
type lead struct {
	*drill.Shop
	t       *testing.T
	p       *replica.Primary
	f       drill.Fitting
	first   uint64 // the number of the first call that is kept
	trimmed uint64
	parts   [][]byte
	past    []map[string]api.Row // behind the calls number first - 1, first ..
}

// leadOver: a new primary.
func leadOver(t *testing.T, sh *drill.Shop, numbers *drill.Numbers) *lead {
	t.Helper()
	p, e := replica.NewPrimary(sh.Store)
	if p == nil || e != api.OK {
		t.Fatalf("NewPrimary = %v, %d", p, e)
	}
	seq := sh.Store.Seq()
	return &lead{Shop: sh, t: t, p: p, f: drill.Fitting{Schema: sh.Schema, Numbers: numbers}, first: seq + 1, trimmed: seq, past: []map[string]api.Row{sh.Rows}}
}

func newLead(t *testing.T, s api.Schema, c api.Config, blocks int, numbers *drill.Numbers) *lead {
	t.Helper()
	return leadOver(t, drill.NewShop(s, c, blocks), numbers)
}

// try: a call of the primary, whether it is accepted or not.
func (l *lead) try(cs ...api.Change) api.Errno {
	l.t.Helper()
	e := l.p.Apply(cs...)
	if e == api.OK {
		l.Rows = drill.PlayChanges(l.Schema, l.Rows, cs...)
		l.past = append(l.past, l.Rows)
		l.parts = append(l.parts, bookPart(l.Schema, l.first+uint64(len(l.parts)), cs...))
	}
	if l.p.Seq() != l.seq() || l.Store.Seq() != l.seq() {
		l.t.Fatalf("%s = %d: Seq = %d, of the store %d, want %d", drill.ShownChanges(l.Schema, cs), e, l.p.Seq(), l.Store.Seq(), l.seq())
	}
	return e
}

func (l *lead) do(cs ...api.Change) {
	l.t.Helper()
	if e := l.try(cs...); e != api.OK {
		l.t.Fatalf("%s = %d", drill.ShownChanges(l.Schema, cs), e)
	}
}

func (l *lead) doAll(texts ...string) {
	l.t.Helper()
	for _, text := range texts {
		l.do(drill.ChangeOf(l.Schema, text))
	}
}

// some: so many calls, of up to eight changes each.
func (l *lead) some(calls, keys int) {
	l.t.Helper()
	for range calls {
		l.do(someChanges(l.f, keys, api.MaxBatch)...)
	}
}

func someChanges(f drill.Fitting, keys, most int) []api.Change {
	var cs []api.Change
	for _, key := range drill.SomeKeys(f.Numbers, keys, most) {
		cs = append(cs, f.Change(key))
	}
	return cs
}

func (l *lead) seq() uint64 {
	return l.first - 1 + uint64(len(l.parts))
}

// behind: the map behind a call.
func (l *lead) behind(seq uint64) map[string]api.Row {
	return l.past[seq+1-l.first]
}

// since: does Since answer what the book says, and do to the disk just that?
func (l *lead) since(seq uint64, most int) ([][]byte, api.Errno) {
	l.t.Helper()
	was := shotOf(l.Disk)
	got, e := l.p.Since(seq, most)
	var parts [][]byte
	want := api.OK
	switch {
	case most < 0:
		want = api.ErrArg
	case seq > l.seq() || seq < l.trimmed:
		want = api.ErrGap
	default:
		parts = l.parts[seq+1-l.first:]
		parts = parts[:min(most, len(parts))]
	}
	if len(parts) > 0 && was.dead {
		parts, want = nil, api.ErrPower
	}
	if len(parts) > 0 {
		was = was.synced(l.Geometry.Sector)
	}
	if e != want || !slices.EqualFunc(got, parts, bytes.Equal) {
		l.t.Fatalf("Since(%d, %d) = %x, %d, want %x, %d", seq, most, got, e, parts, want)
	}
	if !was.same(shotOf(l.Disk)) {
		l.t.Fatalf("Since(%d, %d) of %d parts leaves the disk as %v, was %v", seq, most, len(parts), l.Disk.Stats(), was.stats)
	}
	return got, e
}

// given: all parts that are kept of the calls behind a number.
func (l *lead) given(seq uint64) [][]byte {
	l.t.Helper()
	parts, e := l.since(seq, 1<<30)
	if e != api.OK {
		l.t.Fatalf("Since(%d) = %d", seq, e)
	}
	return parts
}

// trim: likewise of Trim.
func (l *lead) trim(seq uint64) {
	l.t.Helper()
	was, want := shotOf(l.Disk), api.OK
	if seq > l.seq() {
		want = api.ErrGap
	} else {
		l.trimmed = max(l.trimmed, seq)
	}
	if e := l.p.Trim(seq); e != want {
		l.t.Fatalf("Trim(%d) = %d, want %d", seq, e, want)
	}
	if !was.same(shotOf(l.Disk)) {
		l.t.Fatalf("Trim(%d) touches the disk", seq)
	}
}

// tail: a follower over a shop, and a twin: a store alike that is changed without one.
type tail struct {
	*drill.Shop
	t    *testing.T
	f    *replica.Follower
	base uint64
	twin *drill.Shop
}

// newTail: a follower over a new store.
func newTail(t *testing.T, s api.Schema, c api.Config, blocks int, base uint64) *tail {
	t.Helper()
	return tailOver(t, drill.NewShop(s, c, blocks), drill.NewShop(s, c, blocks), base)
}

func tailOver(t *testing.T, sh, twin *drill.Shop, base uint64) *tail {
	t.Helper()
	x := &tail{Shop: sh, t: t, f: newFollower(t, sh.Store, base), base: base, twin: twin}
	x.isLikeTwin("NewFollower")
	return x
}

func newFollower(t *testing.T, st *store.Store, base uint64) *replica.Follower {
	t.Helper()
	f, e := replica.NewFollower(st, base)
	if f == nil || e != api.OK {
		t.Fatalf("NewFollower = %v, %d", f, e)
	}
	return f
}

func (x *tail) isLikeTwin(what string) {
	x.t.Helper()
	if !drill.SameDisks(x.Disk, x.twin.Disk) || x.Store.Seq() != x.twin.Store.Seq() || x.Store.Mode() != x.twin.Store.Mode() {
		x.t.Fatalf("%s leaves the store number %d, %v, want %d, %v", what, x.Store.Seq(), x.Disk.Stats(), x.twin.Store.Seq(), x.twin.Disk.Stats())
	}
	if seq := x.base + x.Store.Seq(); x.f.Seq() != seq {
		x.t.Fatalf("%s leaves the follower number %d, want %d", what, x.f.Seq(), seq)
	}
}

// feed: does Feed answer what the book says, and do to the store what Apply does?
func (x *tail) feed(b []byte) api.Errno {
	x.t.Helper()
	number, cs, is := bookCall(b, x.Schema)
	seq, want := x.base+x.Store.Seq(), api.OK
	switch {
	case !is:
		want = api.ErrWire
	case number <= seq:
	case number != seq+1:
		want = api.ErrGap
	default:
		want = x.twin.Try(cs...)
	}
	e := x.f.Feed(b)
	if e != want {
		x.t.Fatalf("Feed of %x, number %d of %s, behind %d = %d, want %d", b, number, drill.ShownChanges(x.Schema, cs), seq, e, want)
	}
	x.isLikeTwin("Feed")
	return e
}

// holds: does a store hold just a map?
func holds(t *testing.T, st *store.Store, rows map[string]api.Row) {
	t.Helper()
	want := drill.EntriesOf(rows, "", "")
	got, e := st.Scan("", "", len(want)+1)
	if e != api.OK || !drill.SameEntries(got, want) {
		t.Fatalf("%d: %s, want %s", e, drill.ShownEntries(st.Schema(), got), drill.ShownEntries(st.Schema(), want))
	}
}

// isBehind: does the follower's store hold what the primary's held behind the follower's number?
func (x *tail) isBehind(l *lead) {
	x.t.Helper()
	x.holds(l.behind(x.f.Seq()))
}

func (x *tail) holds(rows map[string]api.Row) {
	x.t.Helper()
	holds(x.t, x.Store, rows)
	holds(x.t, x.twin.Store, rows) // so that its disk was asked as often
}
