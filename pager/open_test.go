package pager_test

import (
	"bytes"
	"testing"

	"arbor/api"
	"arbor/disk"
	"arbor/frame"
	"arbor/pager"
)

// superSpec: a super sector as it is laid on a disk; without a geometry the sector is left zero.
type superSpec struct {
	kind     byte
	gen      uint64
	geometry api.Geometry
	root     int
	aux      int
	mapBlock int
	seq      uint64
	tail     []byte // behind the twenty bytes
	short    int    // bytes that the body lacks
	damaged  bool
}

// storeSpec: a store as it is laid on a disk by hand, so that each part of it can be wrong by itself.
type storeSpec struct {
	sectors, size int
	super         [2]superSpec
	mapAt         int // the block that the map page is laid into, where its geometry has the blocks of own
	own           api.Geometry
	mapKind       byte
	mapGen        uint64
	bitmap        []byte
	mapDamaged    bool
}

// committed: a store of the geometry wide, behind its commit of generation 4: root 1, aux 2, map 5, and block 8 in use too.
func committed() *storeSpec {
	return &storeSpec{
		sectors: 33, size: 64,
		super: [2]superSpec{
			{kind: 'S', gen: 4, geometry: wide, root: 1, aux: 2, mapBlock: 5, seq: 44},
			{kind: 'S', gen: 3, geometry: wide, root: 3, aux: 65535, mapBlock: 4, seq: 33},
		},
		mapAt: 5, own: wide, mapKind: 'M', mapGen: 4, bitmap: []byte{1<<1 + 1<<2 + 1<<5, 1},
	}
}

func (s superSpec) lay(t *testing.T, sector []byte) {
	t.Helper()
	if s.geometry == (api.Geometry{}) {
		return
	}
	body := superBody(s.geometry, s.root, s.aux, s.mapBlock, s.seq)
	body = append(body[:len(body)-s.short], s.tail...)
	layFrame(t, sector, api.Frame{Kind: s.kind, Gen: s.gen, Body: body}, s.damaged)
}

func layFrame(t *testing.T, at []byte, f api.Frame, damaged bool) {
	t.Helper()
	b, e := frame.Seal(f, len(at))
	want(t, "Seal", e, api.OK)
	copy(at, b)
	if damaged {
		at[len(at)/2] ^= 16
	}
}

func (s *storeSpec) disk(t *testing.T) *disk.Disk {
	t.Helper()
	image := make([]byte, s.sectors*s.size)
	for at := range min(2, s.sectors) {
		s.super[at].lay(t, image[at*s.size:(at+1)*s.size])
	}
	from := s.size * (2 + s.own.Log + s.own.Per*s.mapAt)
	to := from + s.size*s.own.Per
	if to <= len(image) {
		layFrame(t, image[from:to], api.Frame{Kind: s.mapKind, Gen: s.mapGen, Body: s.bitmap}, s.mapDamaged)
	}
	d, e := disk.FromImage(image, s.size)
	want(t, "FromImage", e, api.OK)
	return d
}

func TestOpenReadsACommit(t *testing.T) {
	d := committed().disk(t)
	wantActs(t, d, 2+wide.Per, 0, 0, func() {
		p := opened(t, d)
		wantSuper(t, p, 4, 1, 2, 44)
		if p.Geometry() != wide {
			t.Errorf("Geometry = %v", p.Geometry())
		}
		wantLeft(t, p, 4)
	})
	p := opened(t, d)
	want(t, "Drop", p.Drop(8), api.OK)
	wantLeft(t, p, 4) // block 8 belongs to the last commit still
	for _, block := range []int{0, 3, 4, 6} {
		wantPut(t, p, 1, "x", block)
	}
	wantNoPut(t, p, "x", api.ErrFull)
	want(t, "Commit", p.Commit(0, -1, 45), api.OK) // the map goes to block 7
	wantLeft(t, p, 1)
	wantPut(t, p, 1, "x", 5)
}

// wantOpen: Open of the store that change made of a right one, and how much of it was read.
func wantOpen(t *testing.T, name string, why api.Errno, reads int, change func(*storeSpec)) *pager.Pager {
	t.Helper()
	s := committed()
	change(s)
	d := s.disk(t)
	var p *pager.Pager
	wantActs(t, d, reads, 0, 0, func() {
		t.Helper()
		var e api.Errno
		p, e = pager.Open(d)
		if e != why || (p != nil) != (e == api.OK) {
			t.Fatalf("%s: Open = %v, %d, want %d", name, p, e, why)
		}
	})
	return p
}

// notCandidates: what makes a super sector none, whatever the rest of the disk is.
func notCandidates() map[string]func(*superSpec) {
	geometry := func(change func(*api.Geometry)) func(*superSpec) {
		return func(s *superSpec) { change(&s.geometry) }
	}
	return map[string]func(*superSpec){
		"damaged":            func(s *superSpec) { s.damaged = true },
		"another kind":       func(s *superSpec) { s.kind = 'M' },
		"kind 0":             func(s *superSpec) { s.kind = 0 },
		"a short body":       func(s *superSpec) { s.short = 1 },
		"no body":            func(s *superSpec) { s.short = 20 },
		"a long body":        func(s *superSpec) { s.tail = []byte{0} },
		"zeros":              func(s *superSpec) { s.geometry = api.Geometry{} },
		"another parity":     func(s *superSpec) { s.gen++ },
		"above MaxGen":       func(s *superSpec) { s.gen += 1 << 62 },
		"far above MaxGen":   func(s *superSpec) { s.gen += 1 << 63 },
		"a map behind":       func(s *superSpec) { s.mapBlock = 9 },
		"a map of -1":        func(s *superSpec) { s.mapBlock = 65535 },
		"a root behind":      func(s *superSpec) { s.root = 9 },
		"a root of 65534":    func(s *superSpec) { s.root = 65534 },
		"an aux behind":      func(s *superSpec) { s.aux = 9 },
		"an aux of 32768":    func(s *superSpec) { s.aux = 32768 },
		"no log":             geometry(func(g *api.Geometry) { g.Log = 0 }),
		"a long log":         geometry(func(g *api.Geometry) { g.Log = 65 }),
		"blocks of none":     geometry(func(g *api.Geometry) { g.Per = 0 }),
		"blocks of nine":     geometry(func(g *api.Geometry) { g.Per = 9 }),
		"three blocks":       geometry(func(g *api.Geometry) { g.Blocks = 3 }),
		"one block too many": geometry(func(g *api.Geometry) { g.Blocks = 10 }),
		"a larger log":       geometry(func(g *api.Geometry) { g.Log = 5 }),
		"larger sectors":     geometry(func(g *api.Geometry) { g.Sector = 65 }),
		"smaller sectors":    geometry(func(g *api.Geometry) { g.Sector = 63 }),
		"sectors of 0":       geometry(func(g *api.Geometry) { g.Sector = 0 }),
	}
}

// P4.3: a super sector that is no candidate is told, be it the newer one or the older one; without any there is no store.
func TestOpenWithoutACandidate(t *testing.T) {
	for name, spoil := range notCandidates() {
		for at := range 2 {
			wantOpen(t, name, api.ErrDamaged, 2, func(s *storeSpec) { spoil(&s.super[at]) })
		}
		wantOpen(t, name+", both", api.ErrNoStore, 2, func(s *storeSpec) {
			spoil(&s.super[0])
			spoil(&s.super[1])
		})
		wantOpen(t, name+", the only one", api.ErrNoStore, 2, func(s *storeSpec) {
			s.onlyFormat()
			spoil(&s.super[1])
		})
	}
}

// onlyFormat: the store as behind Format: generation 1 in sector 1, and sector 0 of zeros.
func (s *storeSpec) onlyFormat() {
	s.super[0] = superSpec{}
	s.super[1] = superSpec{kind: 'S', gen: 1, geometry: wide, root: 65535, aux: 65535}
	s.mapAt, s.mapGen, s.bitmap = 0, 1, []byte{1, 0}
}

// P4.3: which generations may stand beside one another.
func TestOpenGenerations(t *testing.T) {
	for _, c := range []struct {
		even, odd, last uint64
		why             api.Errno
		reads           int
	}{
		{4, 3, 4, api.OK, 5},
		{2, 1, 2, api.OK, 5},
		{4, 5, 5, api.OK, 5},
		{2, 3, 3, api.OK, 5},
		{1 << 62, 1<<62 - 1, 1 << 62, api.OK, 5},
		{1<<62 - 2, 1<<62 - 1, 1<<62 - 1, api.OK, 5},
		{4, 1, 0, api.ErrDamaged, 2},
		{2, 5, 0, api.ErrDamaged, 2},
		{2, 7, 0, api.ErrDamaged, 2},
		{6, 3, 0, api.ErrDamaged, 2},
		{1 << 62, 1<<62 - 3, 0, api.ErrDamaged, 2},
		{1 << 62, 1<<62 + 1, 0, api.ErrDamaged, 2}, // 1<<62 counts, and the other is no candidate
		{0, 1, 0, api.ErrDamaged, 2},               // generation 0 is none, and its sector not zero
		{0, 3, 0, api.ErrDamaged, 2},
	} {
		p := wantOpen(t, "generations", c.why, c.reads, func(s *storeSpec) {
			s.super[0].gen, s.super[1].gen, s.mapGen = c.even, c.odd, c.last
			s.super[1].root, s.super[1].mapBlock = 8, 5
		})
		if c.why != api.OK {
			continue
		}
		if c.last%2 == 0 {
			wantSuper(t, p, c.last, 1, 2, 44)
		} else {
			wantSuper(t, p, c.last, 8, -1, 33)
		}
	}
	wantOpen(t, "generation 0 alone", api.ErrNoStore, 2, func(s *storeSpec) {
		s.super[0].gen, s.super[1] = 0, superSpec{}
	})
}

// P4.3: behind Format the other super sector is zero, every byte of it.
func TestOpenBehindFormat(t *testing.T) {
	p := wantOpen(t, "generation 1", api.OK, 5, (*storeSpec).onlyFormat)
	wantSuper(t, p, 1, -1, -1, 0)
	wantLeft(t, p, 7)
	wantOpen(t, "generation 3 beside zeros", api.ErrDamaged, 2, func(s *storeSpec) { s.super[0] = superSpec{} })
	wantOpen(t, "generation 4 beside zeros", api.ErrDamaged, 2, func(s *storeSpec) { s.super[1] = superSpec{} })
	s := committed()
	s.onlyFormat()
	image := s.disk(t).Image()
	for n := range 64 {
		own := bytes.Clone(image)
		own[n] = 1
		d, _ := disk.FromImage(own, 64)
		if p, e := pager.Open(d); p != nil || e != api.ErrDamaged {
			t.Errorf("with byte %d of sector 0 not zero: Open = %v, %d", n, p, e)
		}
	}
}

// P4.3: what else the two super sectors may hold.
func TestOpenTakesWhatMayBe(t *testing.T) {
	p := wantOpen(t, "no root, no aux", api.OK, 5, func(s *storeSpec) { s.super[0].root, s.super[0].aux = 65535, 65535 })
	wantSuper(t, p, 4, -1, -1, 44)
	p = wantOpen(t, "root is aux", api.OK, 5, func(s *storeSpec) { s.super[0].aux = 1 })
	wantSuper(t, p, 4, 1, 1, 44)
	p = wantOpen(t, "the greatest seq", api.OK, 5, func(s *storeSpec) { s.super[0].seq = 1<<64 - 1 })
	wantSuper(t, p, 4, 1, 2, 1<<64-1)
	p = wantOpen(t, "a larger disk", api.OK, 5, func(s *storeSpec) { s.sectors = 90 })
	wantSuper(t, p, 4, 1, 2, 44)
	wantOpen(t, "an older commit of another geometry", api.OK, 5, func(s *storeSpec) {
		s.super[1].geometry, s.super[1].root, s.super[1].mapBlock = tiny, 3, 0
	})
	wantOpen(t, "a disk that is one sector too small", api.ErrNoStore, 2, func(s *storeSpec) { s.sectors = 32 })
	wantOpen(t, "a disk of two sectors", api.ErrNoStore, 2, func(s *storeSpec) { s.sectors = 2 })
	wantOpen(t, "a disk of one sector", api.ErrNoStore, 1, func(s *storeSpec) { s.sectors = 1 })
	wantOpen(t, "a disk of other sectors", api.ErrNoStore, 2, func(s *storeSpec) { s.size = 128 })
}

// P4.3: the map page must tell the commit that names it.
func TestOpenMap(t *testing.T) {
	for _, c := range []struct {
		name   string
		why    api.Errno
		change func(*storeSpec)
	}{
		{"damaged", api.ErrDamaged, func(s *storeSpec) { s.mapDamaged = true }},
		{"never written", api.ErrDamaged, func(s *storeSpec) { s.mapAt = 6 }},
		{"another kind", api.ErrDamaged, func(s *storeSpec) { s.mapKind = 'L' }},
		{"an older generation", api.ErrDamaged, func(s *storeSpec) { s.mapGen = 3 }},
		{"a newer generation", api.ErrDamaged, func(s *storeSpec) { s.mapGen = 5 }},
		{"too short", api.ErrDamaged, func(s *storeSpec) { s.bitmap = s.bitmap[:1] }},
		{"empty", api.ErrDamaged, func(s *storeSpec) { s.bitmap = nil }},
		{"too long", api.ErrDamaged, func(s *storeSpec) { s.bitmap = append(s.bitmap, 0) }},
		{"a block too many", api.ErrDamaged, func(s *storeSpec) { s.bitmap[1] = 3 }},
		{"a block far behind", api.ErrDamaged, func(s *storeSpec) { s.bitmap[1] = 129 }},
		{"without the map's block", api.ErrDamaged, func(s *storeSpec) { s.bitmap[0] = 1<<1 + 1<<2 }},
		{"without the root", api.ErrDamaged, func(s *storeSpec) { s.bitmap[0] = 1<<2 + 1<<5 }},
		{"without the aux", api.ErrDamaged, func(s *storeSpec) { s.bitmap[0] = 1<<1 + 1<<5 }},
		{"as the root", api.ErrDamaged, func(s *storeSpec) { s.super[0].root = 5 }},
		{"as the aux", api.ErrDamaged, func(s *storeSpec) { s.super[0].aux = 5 }},
		{"of a full store", api.ErrDamaged, func(s *storeSpec) { s.bitmap = []byte{255, 1} }},
		{"with one block open", api.OK, func(s *storeSpec) { s.bitmap = []byte{255, 0} }},
		{"with another block open", api.OK, func(s *storeSpec) { s.bitmap = []byte{254, 1} }},
		{"of its own block alone", api.OK, func(s *storeSpec) {
			s.bitmap, s.super[0].root, s.super[0].aux = []byte{32, 0}, 65535, 65535
		}},
	} {
		wantOpen(t, "a map "+c.name, c.why, 2+wide.Per, c.change)
	}
}

func TestOpenRefuses(t *testing.T) {
	if p, e := pager.Open(nil); p != nil || e != api.ErrArg {
		t.Errorf("Open(nil) = %v, %d", p, e)
	}
	d := committed().disk(t)
	killed(t, d)
	blank := newDisk(t, 8, 64)
	killed(t, blank)
	for _, dead := range []*disk.Disk{d, blank} {
		wantActs(t, dead, 0, 0, 0, func() {
			if p, e := pager.Open(dead); p != nil || e != api.ErrPower {
				t.Errorf("Open of a dead disk = %v, %d", p, e)
			}
		})
	}
}

// P4.3: Open sees what waits, as every read does.
func TestOpenReadsThroughTheCache(t *testing.T) {
	d := committed().disk(t)
	next := api.Frame{Kind: 'S', Gen: 5, Body: superBody(wide, 8, 8, 5, 55)}
	want(t, "Write", d.Write(1, cut(t, wide, 1, 1, next)[0].Bytes), api.OK)
	for _, w := range cut(t, wide, 2+wide.Log+5*wide.Per, wide.Per, api.Frame{Kind: 'M', Gen: 5, Body: []byte{32, 1}}) {
		want(t, "Write", d.Write(w.At, w.Bytes), api.OK)
	}
	p := opened(t, d)
	wantSuper(t, p, 5, 8, 8, 55)
	wantLeft(t, p, 6)
}

// P4.9: behind generation MaxGen there is none, and pages may be put still.
func TestLastGeneration(t *testing.T) {
	s := committed()
	s.super[0].gen, s.super[1].gen, s.mapGen = 1<<62-2, 1<<62-3, 1<<62-2
	d := s.disk(t)
	p := opened(t, d)
	want(t, "Commit of MaxGen - 1", p.Commit(1, 2, 7), api.OK)
	want(t, "Commit of MaxGen", p.Commit(1, 2, 8), api.OK)
	wantSuper(t, p, 1<<62, 1, 2, 8)
	wantActs(t, d, 0, 0, 0, func() {
		want(t, "Commit behind MaxGen", p.Commit(1, 2, 9), api.ErrFull)
		want(t, "Commit of no page", p.Commit(1, 77, 9), api.ErrBlock)
		want(t, "Begin", p.Begin(), api.OK)
		want(t, "Commit in an operation", p.Commit(1, 2, 9), api.ErrOp)
		want(t, "Keep", p.Keep(), api.OK)
	})
	wantSuper(t, p, 1<<62, 1, 2, 8)
	block, e := p.Put(6, []byte("late"))
	want(t, "Put", e, api.OK)
	wantPage(t, p, block, 6, 1<<62+1, "late")
	wantSuper(t, opened(t, d), 1<<62, 1, 2, 8)
}

// Behind a commit each bit of both super sectors and of the map page that is turned is told.
func TestOpenTellsEveryTurnedBit(t *testing.T) {
	d, p := formatted(t, tiny)
	wantPut(t, p, 1, "a", 1)
	for seq := range uint64(3) {
		want(t, "Commit", p.Commit(1, -1, seq), api.OK)
		image := d.Image()
		mapAt := 4 + []int{2, 0, 2}[seq]
		for _, sector := range []int{0, 1, mapAt} {
			for bit := range 64 * 8 {
				own := bytes.Clone(image)
				own[sector*64+bit/8] ^= 1 << (bit % 8)
				turned, _ := disk.FromImage(own, 64)
				if p, e := pager.Open(turned); p != nil || e != api.ErrDamaged {
					t.Fatalf("generation %d, bit %d of sector %d turned: Open = %v, %d", seq+2, bit, sector, p, e)
				}
			}
		}
	}
}
