package store_test

import (
	"bytes"
	"slices"
	"testing"

	"arbor/api"
	"arbor/disk"
	"arbor/drill"
	"arbor/lower"
	"arbor/message"
	"arbor/pager"
	"arbor/store"
	"arbor/tree"
	"arbor/wal"
)

// twin: what a store does to its disk, told once more in terms of the layers below, step by step as P18.1, P18.2 and P18.6 to P18.9 say it, on a disk of its own.
type twin struct {
	t        *testing.T
	s        api.Schema
	c        api.Config
	d        *disk.Disk
	p        *pager.Pager
	x        *tree.Tree
	l        *wal.Log
	aux      int
	seq      uint64
	stream   int // bytes of the log's records, with their lengths
	readOnly bool
}

// catalogText: the catalog's body by the chapter's table.
func catalogText(c api.Config, text string) []byte {
	return append([]byte{byte(c.Fanout), byte(c.Leaf), byte(c.Buffer), byte(c.Buffer >> 8)}, text...)
}

func (w *twin) create(g api.Geometry, text string) api.Errno {
	var e api.Errno
	w.readOnly = false
	if w.p, e = pager.Format(w.d, g); e != api.OK {
		return e
	}
	if w.aux, e = w.p.Put('C', catalogText(w.c, text)); e != api.OK {
		return e
	}
	if w.x, e = tree.New(w.p, w.s, w.c); e != api.OK {
		return e
	}
	return w.commit(0)
}

func (w *twin) commit(seq uint64) api.Errno {
	e := w.p.Commit(w.x.Root(), w.aux, seq)
	if e == api.OK {
		w.l, e = wal.Start(w.d, 2, w.p.Geometry().Log, w.p.Super().Gen)
		w.stream = 0
	}
	return e
}

func (w *twin) open() api.Errno {
	var e api.Errno
	w.readOnly = false
	if w.p, e = pager.Open(w.d); e != api.OK {
		return e
	}
	seq := w.p.Super().Seq
	w.aux = w.p.Super().Aux
	if _, e = w.p.Get(w.aux); e != api.OK {
		return e
	}
	if w.x, e = tree.Load(w.p, w.s, w.c, w.p.Super().Root); e != api.OK {
		return e
	}
	records, e := wal.Replay(w.d, 2, w.p.Geometry().Log, w.p.Super().Gen)
	if e != api.OK {
		return e
	}
	for _, record := range records {
		var ms []api.Message
		for rest := record[9:]; len(rest) > 0; {
			m, taken, e := message.Decode(w.s, rest)
			if e != api.OK {
				w.t.Fatalf("Decode = %d", e)
			}
			ms, rest = append(ms, m), rest[taken:]
		}
		if e := w.x.Apply(ms...); e != api.OK {
			return e
		}
		seq++
	}
	if e = w.commit(seq); e == api.OK {
		w.seq = seq
	}
	return e
}

func (w *twin) messages(cs []api.Change) []api.Message {
	var ms []api.Message
	for _, c := range cs {
		m := api.Message{Kind: c.Kind, Key: c.Key, Vals: c.Vals}
		if c.Kind == api.MUpsert {
			m.Code, _, _ = lower.Compile(w.s, c.Src)
		}
		ms = append(ms, m)
	}
	return ms
}

func (w *twin) record(ms []api.Message) []byte {
	number := w.seq + 1
	var b []byte
	for range 8 {
		b, number = append(b, byte(number)), number>>8
	}
	b = append(b, byte(len(ms)))
	for _, m := range ms {
		raw, _ := message.Encode(w.s, m)
		b = append(b, raw...)
	}
	return b
}

func (w *twin) apply(cs []api.Change) api.Errno {
	if w.d.Dead() {
		return api.ErrPower
	}
	if w.readOnly {
		return api.ErrReadOnly
	}
	ms := w.messages(cs)
	e := w.x.Apply(ms...)
	if e == api.ErrFull {
		if e = w.commit(w.seq); e == api.OK {
			e = w.x.Apply(ms...)
		}
	}
	w.readOnly = e == api.ErrFull
	if e != api.OK {
		return e
	}
	g, b := w.p.Geometry(), w.record(ms)
	if w.stream += 2 + len(b); w.stream > g.Log*(g.Sector-17) {
		e = w.commit(w.seq + 1)
	} else {
		e = w.l.Append(b)
	}
	if e == api.OK {
		w.seq++
	}
	return e
}

// alike: do two disks hold the same, has the same been done to them?
func (w *twin) alike(d *disk.Disk, what string) {
	w.t.Helper()
	same := func(a, b api.Write) bool { return a.At == b.At && bytes.Equal(a.Bytes, b.Bytes) }
	if !slices.EqualFunc(w.d.Pending(), d.Pending(), same) {
		w.t.Fatalf("%v: %s: other writes wait", w.c, what)
	}
	if !bytes.Equal(w.d.Image(), d.Image()) {
		w.t.Fatalf("%v: %s: other bytes are durable", w.c, what)
	}
	if w.d.Stats() != d.Stats() || w.d.Dead() != d.Dead() {
		w.t.Fatalf("%v: %s: %v, want %v", w.c, what, d.Stats(), w.d.Stats())
	}
}

// pair: a world and its twin.
type pair struct {
	*world
	twin *twin
}

func newPair(t *testing.T, g api.Geometry, c api.Config, s api.Schema, text string) pair {
	t.Helper()
	w := found(t, g, c, s)
	b := &twin{t: t, s: s, c: c, d: newDisk(t, g)}
	if e := b.create(g, text); e != api.OK {
		t.Fatalf("the twin's Create = %d", e)
	}
	b.alike(w.d, "Create")
	return pair{w, b}
}

// step: one call, of the store and of its twin.
func (p *pair) step(f drill.Fitting, keys int) {
	p.t.Helper()
	what, got, want := "", api.OK, api.OK
	switch f.Numbers.Below(16) {
	case 0:
		what, got, want = "Sync", p.x.Sync(), p.twin.d.Flush()
	case 1:
		what, got, want = "Checkpoint", p.x.Checkpoint(), p.twin.commit(p.twin.seq)
	case 2:
		what, got = p.ask(f, keys)
		want = got
	case 3:
		x, e := store.Open(p.d)
		if what, got, want = "Open", e, p.twin.open(); e == api.OK {
			p.x = x
		}
	default:
		cs := some(f, keys, 1+f.Numbers.Below(8))
		what, got, want = drill.ShownChanges(p.s, cs), p.try(cs...), p.twin.apply(cs)
	}
	if got != want {
		p.t.Fatalf("%v, %v: %s = %d, want %d", p.g, p.c, what, got, want)
	}
	if p.x.Seq() != p.twin.seq {
		p.t.Fatalf("%v, %v: behind %s Seq = %d, want %d", p.g, p.c, what, p.x.Seq(), p.twin.seq)
	}
	p.twin.alike(p.d, what)
}

// ask: P18.14: reads, just those of the tree.
func (p *pair) ask(f drill.Fitting, keys int) (string, api.Errno) {
	lo, hi, limit := drill.SomeKey(f.Numbers, keys), drill.SomeKey(f.Numbers, keys), f.Numbers.Below(6)
	_, e := p.x.Get(lo)
	p.twin.x.Get(lo)
	p.x.Scan(lo, hi, limit)
	p.twin.x.Scan(lo, hi, limit)
	gone(p.x, lo, hi, 3)
	for range p.twin.x.All(lo, hi) {
	}
	p.x.Schema()
	p.x.Geometry()
	p.x.Config()
	p.x.Mode()
	p.x.Seq()
	return "asking", e
}

// P18.1, P18.2, P18.6 to P18.10, P18.14: to the sector and its place, to the byte, to the number of reads, writes and flushes.
func TestWhatIsDoneToTheDisk(t *testing.T) {
	numbers := drill.Numbers(301)
	for _, c := range drill.Measures() {
		for _, log := range []int{2, 5, 64} {
			for _, blocks := range []int{4, 5, 9, 20, 300} {
				p := newPair(t, geometryOf(c, log, blocks), c, drill.Schemas()[0], "n:int,m:int?,on:bool,off:bool?,tag:bytes?")
				f := drill.Fitting{Schema: p.s, Numbers: &numbers}
				for range 60 {
					p.step(f, blocks)
				}
			}
		}
	}
}

// P18.2: the calls of the log are done again just as they were done: what is opened behind a loss of power that lost nothing is, to the byte, what a checkpoint would have made.
func TestReplayIsWhatWasDone(t *testing.T) {
	numbers := drill.Numbers(302)
	for _, c := range drill.Measures() {
		w := found(t, geometryOf(c, 30, 400), c, drill.Pick(&numbers, drill.Schemas()))
		f := drill.Fitting{Schema: w.s, Numbers: &numbers}
		for range 60 {
			w.do(some(f, 40, 4)...)
			d := w.d.Survive(everything(w.d))
			opened(t, d)
			if numbers.Below(4) == 0 {
				w.checkpoint()
				if !bytes.Equal(w.d.Image(), d.Image()) {
					t.Fatalf("%v: behind the call number %d it is not the same", c, w.seq())
				}
			}
		}
	}
}

// The same with losses of power: at the same write, the same writes wait and survive.
func TestWhatIsDoneToADyingDisk(t *testing.T) {
	numbers := drill.Numbers(303)
	for _, c := range drill.Measures()[:4] {
		for _, blocks := range []int{12, 300} {
			p := newPair(t, geometryOf(c, 3, blocks), c, drill.Schemas()[1], "tag:bytes?,off:bool?,b:bytes,n:int,on:bool")
			f := drill.Fitting{Schema: p.s, Numbers: &numbers}
			for range 60 {
				arm := numbers.Below(30 * p.g.Per)
				p.d.Arm(arm)
				p.twin.d.Arm(arm)
				for !p.d.Dead() {
					if p.x.Mode() == api.ModeReadOnly {
						p.x.Checkpoint()
						p.twin.commit(p.twin.seq)
					} else {
						p.step(f, blocks)
					}
				}
				keep := numbers.Keep(len(p.d.Pending()))
				p.d, p.twin.d = p.d.Survive(keep), p.twin.d.Survive(keep)
				x, e := store.Open(p.d)
				if e != api.OK || p.twin.open() != api.OK {
					t.Fatalf("Open = %d", e)
				}
				p.x = x
				p.twin.alike(p.d, "Open")
			}
		}
	}
}
