package pager_test

import (
	"bytes"
	"maps"
	"slices"
	"testing"

	"arbor/api"
	"arbor/disk"
	"arbor/pager"
)

type page struct {
	kind byte
	gen  uint64
	body string
}

// state: what a commit makes durable.
type state struct {
	super    api.Super
	pages    map[int]page
	mapBlock int
}

// book: what the chapter says of a pager and of its disk, told plainly: the pages in use now, at the mark and at the last commit, and every write with its bytes.
type book struct {
	t       *testing.T
	g       api.Geometry
	now     map[int]page
	mark    map[int]page
	last    state
	doubt   *state // the commit with whose super sector the power went
	running bool
	firm    []byte
	waiting []api.Write
	armed   int // writes that go well still; below 0: all
	dead    bool
	stats   api.DiskStats
}

// bookOf: of a pager that was just formatted or opened over these durable bytes.
func bookOf(t *testing.T, g api.Geometry, last state, firm []byte) *book {
	return &book{t: t, g: g, now: maps.Clone(last.pages), mark: maps.Clone(last.pages), last: last, firm: firm, armed: -1}
}

func (b *book) open() []int {
	var list []int
	for block := range b.g.Blocks {
		_, now := b.now[block]
		_, mark := b.mark[block]
		_, last := b.last.pages[block]
		if !now && !mark && !last && block != b.last.mapBlock {
			list = append(list, block)
		}
	}
	return list
}

func (b *book) left() int {
	return max(len(b.open())-1, 0)
}

func (b *book) write(list []api.Write) api.Errno {
	for _, w := range list {
		if b.dead {
			return api.ErrPower
		}
		b.waiting = append(b.waiting, w)
		if b.armed == 0 {
			b.dead = true
			return api.ErrPower
		}
		b.armed--
		b.stats.Writes++
	}
	return api.OK
}

func (b *book) flush() api.Errno {
	if b.dead {
		return api.ErrPower
	}
	b.firm = b.survivors(slices.Repeat([]bool{true}, len(b.waiting)))
	b.waiting = nil
	b.stats.Flushes++
	return api.OK
}

// survivors: the durable bytes behind a loss of power.
func (b *book) survivors(keep []bool) []byte {
	firm := bytes.Clone(b.firm)
	for n, w := range b.waiting {
		if n < len(keep) && keep[n] {
			copy(firm[w.At*b.g.Sector:], w.Bytes)
		}
	}
	return firm
}

func (b *book) block(block int, f api.Frame) []api.Write {
	return cut(b.t, b.g, 2+b.g.Log+block*b.g.Per, b.g.Per, f)
}

func (b *book) put(kind byte, body string) (int, api.Errno) {
	if len(body) > b.g.Sector*b.g.Per-15 {
		return 0, api.ErrLong
	}
	if b.left() == 0 {
		return 0, api.ErrFull
	}
	block, gen := b.open()[0], b.last.super.Gen+1
	if e := b.write(b.block(block, api.Frame{Kind: kind, Gen: gen, Body: []byte(body)})); e != api.OK {
		return 0, e
	}
	b.now[block] = page{kind, gen, body}
	b.kept()
	return block, api.OK
}

func (b *book) drop(block int) api.Errno {
	if _, is := b.now[block]; !is {
		return api.ErrBlock
	}
	delete(b.now, block)
	b.kept()
	return api.OK
}

func (b *book) kept() {
	if !b.running {
		b.mark = maps.Clone(b.now)
	}
}

func (b *book) begin() api.Errno {
	if b.running {
		return api.ErrOp
	}
	b.running = true
	return api.OK
}

func (b *book) keep() api.Errno {
	if !b.running {
		return api.ErrOp
	}
	b.running = false
	b.mark = maps.Clone(b.now)
	return api.OK
}

func (b *book) cancel() api.Errno {
	if !b.running {
		return api.ErrOp
	}
	b.running = false
	b.now = maps.Clone(b.mark)
	return api.OK
}

func (b *book) commit(root, aux int, seq uint64) api.Errno {
	if b.running {
		return api.ErrOp
	}
	for _, block := range []int{root, aux} {
		if _, is := b.now[block]; !is && block != -1 {
			return api.ErrBlock
		}
	}
	next := state{
		super:    api.Super{Gen: b.last.super.Gen + 1, Root: root, Aux: aux, Seq: seq},
		pages:    maps.Clone(b.now),
		mapBlock: b.open()[0],
	}
	bitmap := make([]byte, (b.g.Blocks+7)/8)
	for _, block := range append(slices.Collect(maps.Keys(b.now)), next.mapBlock) {
		bitmap[block/8] += []byte{1, 2, 4, 8, 16, 32, 64, 128}[block%8]
	}
	if e := b.write(b.block(next.mapBlock, api.Frame{Kind: 'M', Gen: next.super.Gen, Body: bitmap})); e != api.OK {
		return e
	}
	if e := b.flush(); e != api.OK {
		return e
	}
	super := api.Frame{Kind: 'S', Gen: next.super.Gen, Body: superBody(b.g, root, aux, next.mapBlock, seq)}
	if e := b.write(cut(b.t, b.g, int(next.super.Gen%2), 1, super)); e != api.OK {
		b.doubt = &next
		return e
	}
	if e := b.flush(); e != api.OK {
		return e
	}
	b.last = next
	b.mark = maps.Clone(b.now)
	return api.OK
}

// behind: the commit that a loss of power leaves: the last one, or the one in doubt if its super sector survived.
func (b *book) behind(keep []bool) state {
	if b.doubt != nil && len(keep) >= len(b.waiting) && keep[len(b.waiting)-1] {
		return *b.doubt
	}
	return b.last
}

// world: a disk and a pager over it, and the book of both.
type world struct {
	t    *testing.T
	d    *disk.Disk
	p    *pager.Pager
	book *book
}

func newWorld(t *testing.T, g api.Geometry) *world {
	t.Helper()
	d, p := formatted(t, g)
	b := bookOf(t, g, state{super: api.Super{Gen: 1, Root: -1, Aux: -1}, pages: map[int]page{}}, d.Image())
	b.stats = d.Stats()
	return &world{t, d, p, b}
}

func (w *world) put(kind byte, body string) {
	w.t.Helper()
	got, e := w.p.Put(kind, []byte(body))
	if block, f := w.book.put(kind, body); got != block || e != f {
		w.t.Fatalf("Put(%d, %q) = %d, %d, want %d, %d", kind, body, got, e, block, f)
	}
}

func (w *world) arm(writes int) {
	w.t.Helper()
	if !w.book.dead {
		want(w.t, "Arm", w.d.Arm(writes), api.OK)
		w.book.armed = writes
	}
}

// same: every answer of the pager and of its disk against the book's.
func (w *world) same() {
	w.t.Helper()
	b := w.book
	if w.p.Geometry() != b.g || w.p.Super() != b.last.super {
		w.t.Fatalf("Geometry, Super = %v, %v, want %v, %v", w.p.Geometry(), w.p.Super(), b.g, b.last.super)
	}
	wantLeft(w.t, w.p, b.left())
	for block := -2; block <= b.g.Blocks+1; block++ {
		page, is := b.now[block]
		switch {
		case !is:
			wantNoPage(w.t, w.p, block, api.ErrBlock)
		case b.dead:
			wantNoPage(w.t, w.p, block, api.ErrPower)
		default:
			wantPage(w.t, w.p, block, page.kind, page.gen, page.body)
			b.stats.Reads += b.g.Per
		}
	}
	if !sameWrites(w.d.Pending(), b.waiting) || !bytes.Equal(w.d.Image(), b.firm) || w.d.Stats() != b.stats || w.d.Dead() != b.dead {
		w.t.Fatalf("the disk: %v, dead %v, waiting %v, want %v, dead %v, waiting %v", w.d.Stats(), w.d.Dead(), w.d.Pending(), b.stats, b.dead, b.waiting)
	}
}

// crash: the world over what survived a loss of power. It holds just the pages of one commit.
func (w *world) crash(keep []bool) *world {
	w.t.Helper()
	d := w.d.Survive(keep)
	p, e := pager.Open(d)
	if p == nil || e != api.OK {
		w.t.Fatalf("Open behind a loss of power = %v, %d (waiting %v, keep %v)", p, e, w.book.waiting, keep)
	}
	over := &world{w.t, d, p, bookOf(w.t, w.book.g, w.book.behind(keep), w.book.survivors(keep))}
	over.book.stats.Reads = 2 + w.book.g.Per
	over.same()
	return over
}

// reopen: another pager over the same disk, which has the last commit's pages alone.
func (w *world) reopen() {
	w.t.Helper()
	p, e := pager.Open(w.d)
	if w.book.dead {
		if p != nil || e != api.ErrPower {
			w.t.Fatalf("Open of a dead disk = %v, %d", p, e)
		}
		return
	}
	want(w.t, "Open", e, api.OK)
	w.p = p
	w.book.now, w.book.mark, w.book.running = maps.Clone(w.book.last.pages), maps.Clone(w.book.last.pages), false
	w.book.stats.Reads += 2 + w.book.g.Per
}
