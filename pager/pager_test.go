package pager_test

import (
	"bytes"
	"math"
	"slices"
	"strings"
	"testing"

	"arbor/api"
	"arbor/disk"
	"arbor/frame"
	"arbor/pager"
)

// tiny: the least geometry. wide: blocks of several sectors.
var (
	tiny = api.Geometry{Sector: 64, Per: 1, Log: 2, Blocks: 4}
	wide = api.Geometry{Sector: 64, Per: 3, Log: 4, Blocks: 9}
)

func newDisk(t *testing.T, sectors, size int) *disk.Disk {
	t.Helper()
	d, e := disk.New(sectors, size)
	if e != api.OK {
		t.Fatalf("a disk of %d sectors of %d bytes: %d", sectors, size, e)
	}
	return d
}

func formatted(t *testing.T, g api.Geometry) (*disk.Disk, *pager.Pager) {
	t.Helper()
	d := newDisk(t, pager.Sectors(g), g.Sector)
	p, e := pager.Format(d, g)
	if p == nil || e != api.OK {
		t.Fatalf("Format(%v) = %v, %d", g, p, e)
	}
	return d, p
}

func opened(t *testing.T, d *disk.Disk) *pager.Pager {
	t.Helper()
	p, e := pager.Open(d)
	if p == nil || e != api.OK {
		t.Fatalf("Open = %v, %d", p, e)
	}
	return p
}

func want(t *testing.T, what string, got, want api.Errno) {
	t.Helper()
	if got != want {
		t.Fatalf("%s = %d, want %d", what, got, want)
	}
}

func wantPut(t *testing.T, p *pager.Pager, kind byte, body string, block int) {
	t.Helper()
	if got, e := p.Put(kind, []byte(body)); got != block || e != api.OK {
		t.Fatalf("Put(%d, %q) = %d, %d, want block %d", kind, body, got, e, block)
	}
}

func wantNoPut(t *testing.T, p *pager.Pager, body string, why api.Errno) {
	t.Helper()
	if got, e := p.Put(1, []byte(body)); got != 0 || e != why {
		t.Fatalf("Put(1, %q) = %d, %d, want error %d", body, got, e, why)
	}
}

func wantPage(t *testing.T, p *pager.Pager, block int, kind byte, gen uint64, body string) {
	t.Helper()
	f, e := p.Get(block)
	if e != api.OK || f.Kind != kind || f.Gen != gen || string(f.Body) != body {
		t.Fatalf("Get(%d) = %v, %d, want %d, %d, %q", block, f, e, kind, gen, body)
	}
}

func wantNoPage(t *testing.T, p *pager.Pager, block int, why api.Errno) {
	t.Helper()
	f, e := p.Get(block)
	if e != why || f.Kind != 0 || f.Gen != 0 || len(f.Body) != 0 {
		t.Fatalf("Get(%d) = %v, %d, want error %d", block, f, e, why)
	}
}

func wantLeft(t *testing.T, p *pager.Pager, left int) {
	t.Helper()
	if got := p.Left(); got != left {
		t.Fatalf("Left = %d, want %d", got, left)
	}
}

func wantSuper(t *testing.T, p *pager.Pager, gen uint64, root, aux int, seq uint64) {
	t.Helper()
	if got := p.Super(); got != (api.Super{Gen: gen, Root: root, Aux: aux, Seq: seq}) {
		t.Fatalf("Super = %v, want %d, %d, %d, %d", got, gen, root, aux, seq)
	}
}

// wantActs: how often act makes the disk read, write and flush.
func wantActs(t *testing.T, d *disk.Disk, reads, writes, flushes int, act func()) {
	t.Helper()
	was := d.Stats()
	act()
	now := d.Stats()
	got := api.DiskStats{Reads: now.Reads - was.Reads, Writes: now.Writes - was.Writes, Flushes: now.Flushes - was.Flushes}
	if got != (api.DiskStats{Reads: reads, Writes: writes, Flushes: flushes}) {
		t.Fatalf("the disk was asked %v, want %d reads, %d writes, %d flushes", got, reads, writes, flushes)
	}
}

func killed(t *testing.T, d *disk.Disk) {
	t.Helper()
	want(t, "Arm(0)", d.Arm(0), api.OK)
	_, size := d.Shape()
	want(t, "the write that kills", d.Write(2, make([]byte, size)), api.ErrPower)
}

// P4.1: every bound of a geometry, from both sides.
func TestCheckBounds(t *testing.T) {
	middle := api.Geometry{Sector: 256, Per: 2, Log: 8, Blocks: 100}
	for _, c := range []struct {
		name        string
		part        func(*api.Geometry) *int
		least, most int
	}{
		{"Sector", func(g *api.Geometry) *int { return &g.Sector }, 64, 1024},
		{"Per", func(g *api.Geometry) *int { return &g.Per }, 1, 8},
		{"Log", func(g *api.Geometry) *int { return &g.Log }, 2, 64},
		{"Blocks", func(g *api.Geometry) *int { return &g.Blocks }, 4, 2048},
	} {
		for _, n := range []int{c.least, c.least + 1, c.most - 1, c.most} {
			g := middle
			*c.part(&g) = n
			wantGeometry(t, g, 2+g.Log+g.Per*g.Blocks)
		}
		for _, n := range []int{c.least - 1, c.most + 1, 0, -1, -c.least, math.MinInt, math.MaxInt, 1 << 32, 1 << 62, 1<<63 - 1<<10} {
			g := middle
			*c.part(&g) = n
			wantGeometry(t, g, 0)
		}
	}
	wantGeometry(t, api.Geometry{}, 0)
	wantGeometry(t, api.Geometry{Sector: math.MaxInt, Per: math.MaxInt, Log: math.MaxInt, Blocks: math.MaxInt}, 0)
}

// P4.1: a bitmap must have room in a page, and the store on a disk.
func TestCheckRoom(t *testing.T) {
	for _, c := range []struct{ sector, per, blocks int }{
		{64, 1, 49 * 8}, {65, 1, 50 * 8}, {64, 2, 113 * 8}, {100, 1, 85 * 8}, {67, 3, 186 * 8},
	} {
		wantGeometry(t, api.Geometry{Sector: c.sector, Per: c.per, Log: 2, Blocks: c.blocks}, 4+c.per*c.blocks)
		wantGeometry(t, api.Geometry{Sector: c.sector, Per: c.per, Log: 2, Blocks: c.blocks - 7}, 4+c.per*(c.blocks-7))
		wantGeometry(t, api.Geometry{Sector: c.sector, Per: c.per, Log: 2, Blocks: c.blocks + 1}, 0)
	}
	for _, c := range []struct{ per, log, blocks int }{{8, 62, 2040}, {8, 6, 2047}, {8, 14, 2046}} {
		g := api.Geometry{Sector: 512, Per: c.per, Log: c.log, Blocks: c.blocks}
		wantGeometry(t, g, 16384)
		g.Log++
		wantGeometry(t, g, 0)
		g.Log, g.Blocks = c.log, c.blocks+1
		wantGeometry(t, g, 0)
	}
}

func wantGeometry(t *testing.T, g api.Geometry, sectors int) {
	t.Helper()
	why := api.OK
	if sectors == 0 {
		why = api.ErrGeometry
	}
	if e, n := pager.Check(g), pager.Sectors(g); e != why || n != sectors {
		t.Errorf("Check(%v) = %d, Sectors = %d, want %d, %d", g, e, n, why, sectors)
	}
}

// formatWrites: what Format writes, in two parts with a flush behind each.
func formatWrites(t *testing.T, g api.Geometry) [2][]api.Write {
	t.Helper()
	blank := make([]byte, g.Sector)
	firm := []api.Write{{At: 0, Bytes: blank}}
	for k := range g.Log {
		firm = append(firm, api.Write{At: 2 + k, Bytes: blank})
	}
	bitmap := make([]byte, (g.Blocks+7)/8)
	bitmap[0] = 1
	firm = append(firm, cut(t, g, 2+g.Log, g.Per, api.Frame{Kind: 'M', Gen: 1, Body: bitmap})...)
	super := api.Frame{Kind: 'S', Gen: 1, Body: superBody(g, 65535, 65535, 0, 0)}
	return [2][]api.Write{firm, cut(t, g, 1, 1, super)}
}

// cut: a frame of so many sectors as writes from a sector on.
func cut(t *testing.T, g api.Geometry, at, sectors int, f api.Frame) []api.Write {
	t.Helper()
	b, e := frame.Seal(f, g.Sector*sectors)
	if e != api.OK {
		t.Fatalf("Seal = %d", e)
	}
	var list []api.Write
	for k := range sectors {
		list = append(list, api.Write{At: at + k, Bytes: b[k*g.Sector : (k+1)*g.Sector]})
	}
	return list
}

// superBody: the twenty bytes as the chapter's table has them.
func superBody(g api.Geometry, root, aux, mapBlock int, seq uint64) []byte {
	b := []byte{
		byte(g.Sector), byte(g.Sector >> 8), byte(g.Per), byte(g.Log), byte(g.Blocks), byte(g.Blocks >> 8),
		byte(root), byte(root >> 8), byte(aux), byte(aux >> 8), byte(mapBlock), byte(mapBlock >> 8),
	}
	for range 8 {
		b = append(b, byte(seq))
		seq >>= 8
	}
	return b
}

func sameWrites(a, b []api.Write) bool {
	return slices.EqualFunc(a, b, func(v, w api.Write) bool { return v.At == w.At && bytes.Equal(v.Bytes, w.Bytes) })
}

// used: a disk, larger than the geometry needs, whose every byte is 7.
func used(t *testing.T, g api.Geometry) *disk.Disk {
	t.Helper()
	d, e := disk.FromImage(bytes.Repeat([]byte{7}, g.Sector*(pager.Sectors(g)+5)), g.Sector)
	want(t, "FromImage", e, api.OK)
	return d
}

// P4.2: just these writes, in this order, with a flush behind each part, and nothing else is touched.
func TestFormatWritesInOrder(t *testing.T) {
	for _, g := range []api.Geometry{tiny, wide, {Sector: 1024, Per: 8, Log: 62, Blocks: 1500}} {
		parts := formatWrites(t, g)
		d := used(t, g)
		wantActs(t, d, 0, 2+g.Log+g.Per, 2, func() {
			p, e := pager.Format(d, g)
			want(t, "Format", e, api.OK)
			wantSuper(t, p, 1, -1, -1, 0)
			wantLeft(t, p, g.Blocks-2)
			for block := range g.Blocks {
				wantNoPage(t, p, block, api.ErrBlock)
			}
		})
		image := used(t, g).Image()
		for _, w := range slices.Concat(parts[0], parts[1]) {
			copy(image[w.At*g.Sector:], w.Bytes)
		}
		if len(d.Pending()) != 0 || !bytes.Equal(d.Image(), image) {
			t.Errorf("Format(%v) laid other bytes on the disk", g)
		}
	}
}

// P4.2: the power goes with each write in turn.
func TestFormatWithoutPower(t *testing.T) {
	for _, g := range []api.Geometry{tiny, wide} {
		parts := formatWrites(t, g)
		for n := range len(parts[0]) + 1 {
			d := used(t, g)
			want(t, "Arm", d.Arm(n), api.OK)
			if p, e := pager.Format(d, g); p != nil || e != api.ErrPower {
				t.Fatalf("Format(%v) with %d writes = %v, %d", g, n, p, e)
			}
			waiting := parts[1]
			if n < len(parts[0]) {
				waiting = parts[0][:n+1]
			}
			if !sameWrites(d.Pending(), waiting) {
				t.Errorf("Format(%v) with %d writes: Pending is %v, want %v", g, n, d.Pending(), waiting)
			}
		}
	}
}

func TestFormatRefuses(t *testing.T) {
	if p, e := pager.Format(nil, api.Geometry{}); p != nil || e != api.ErrArg {
		t.Errorf("Format of a nil disk = %v, %d", p, e)
	}
	for _, c := range []struct {
		sectors, size int
		g             api.Geometry
	}{
		{7, 64, tiny}, {1, 64, tiny}, {8, 65, tiny}, {8, 63, tiny}, {16, 32, tiny}, {8, 128, tiny},
		{16384, 64, api.Geometry{}}, {8, 64, api.Geometry{Sector: 64, Per: 1, Log: 2, Blocks: 3}},
		{8, 64, api.Geometry{Sector: 64, Per: 1, Log: 1, Blocks: 4}}, {16384, 64, api.Geometry{Sector: 64, Per: 1, Log: 2, Blocks: 393}},
		{40, 63, api.Geometry{Sector: 63, Per: 1, Log: 2, Blocks: 4}}, {32, 64, wide},
	} {
		d := newDisk(t, c.sectors, c.size)
		for _, dead := range []bool{false, true} {
			if dead && c.sectors > 2 {
				killed(t, d)
			}
			wantActs(t, d, 0, 0, 0, func() {
				if p, e := pager.Format(d, c.g); p != nil || e != api.ErrGeometry {
					t.Errorf("Format(%d sectors of %d, %v) = %v, %d", c.sectors, c.size, c.g, p, e)
				}
			})
		}
	}
	d := newDisk(t, 8, 64)
	killed(t, d)
	if p, e := pager.Format(d, tiny); p != nil || e != api.ErrPower {
		t.Errorf("Format of a dead disk = %v, %d", p, e)
	}
}

// P4.5: the longest body has just the room of a page, and every kind may be put.
func TestPutLengthsAndKinds(t *testing.T) {
	for _, g := range []api.Geometry{tiny, wide, {Sector: 1024, Per: 8, Log: 2, Blocks: 5}} {
		d, p := formatted(t, g)
		room := g.Sector*g.Per - 15
		long := strings.Repeat("x", room)
		wantActs(t, d, 0, 0, 0, func() { wantNoPut(t, p, long+"x", api.ErrLong) })
		wantActs(t, d, 0, g.Per, 0, func() { wantPut(t, p, 255, long, 1) })
		wantActs(t, d, g.Per, 0, 0, func() { wantPage(t, p, 1, 255, 2, long) })
	}
	_, p := formatted(t, tiny)
	for kind := range 256 {
		wantPut(t, p, byte(kind), "k", 1)
		wantPage(t, p, 1, byte(kind), 2, "k")
		want(t, "Drop", p.Drop(1), api.OK)
	}
	if block, e := p.Put(7, nil); block != 1 || e != api.OK {
		t.Errorf("Put of a nil body = %d, %d", block, e)
	}
	wantPage(t, p, 1, 7, 2, "")
}

// P4.5: ErrLong is named ahead of ErrFull, and ErrFull ahead of ErrPower.
func TestPutOrderOfErrors(t *testing.T) {
	d, p := formatted(t, tiny)
	wantPut(t, p, 1, "a", 1)
	wantPut(t, p, 1, "b", 2)
	long := strings.Repeat("x", 50)
	wantActs(t, d, 0, 0, 0, func() {
		wantNoPut(t, p, long, api.ErrLong)
		wantNoPut(t, p, "c", api.ErrFull)
		killed(t, d)
		wantNoPut(t, p, long, api.ErrLong)
		wantNoPut(t, p, "c", api.ErrFull)
	})
	want(t, "Drop", p.Drop(2), api.OK)
	wantNoPut(t, p, long, api.ErrLong)
	wantNoPut(t, p, "c", api.ErrPower)
	wantLeft(t, p, 1)
	wantNoPage(t, p, 2, api.ErrBlock)
	wantNoPage(t, p, 1, api.ErrPower)
}

// P4.6: a page is held against its sum and its generation, whoever wrote it.
func TestGetTellsDamage(t *testing.T) {
	d, p := formatted(t, wide)
	wantPut(t, p, 1, "first", 1)
	want(t, "Commit", p.Commit(1, -1, 0), api.OK)
	at := 2 + wide.Log + wide.Per
	whole := cut(t, wide, at, wide.Per, api.Frame{Kind: 1, Gen: 2, Body: []byte("first")})
	for k, w := range whole {
		for n := range wide.Sector {
			b := bytes.Clone(w.Bytes)
			b[n] ^= 1 << (n % 8)
			want(t, "Write", d.Write(at+k, b), api.OK)
			wantActs(t, d, wide.Per, 0, 0, func() { wantNoPage(t, p, 1, api.ErrDamaged) })
		}
		want(t, "Write", d.Write(at+k, w.Bytes), api.OK)
		wantPage(t, p, 1, 1, 2, "first")
	}
	for _, c := range []struct {
		gen uint64
		ok  bool
	}{{0, true}, {1, true}, {2, true}, {3, true}, {4, false}, {5, false}, {math.MaxUint64, false}} {
		for _, w := range cut(t, wide, at, wide.Per, api.Frame{Kind: 9, Gen: c.gen, Body: []byte("other")}) {
			want(t, "Write", d.Write(w.At, w.Bytes), api.OK)
		}
		if c.ok {
			wantPage(t, p, 1, 9, c.gen, "other")
		} else {
			wantNoPage(t, p, 1, api.ErrDamaged)
		}
	}
}

// P4.6, P4.7, P4.9: what is no page is none for each of them, and the disk is not asked.
func TestNoPages(t *testing.T) {
	d, p := formatted(t, wide)
	wantPut(t, p, 1, "a", 1)
	want(t, "Commit", p.Commit(-1, -1, 3), api.OK) // the map goes to block 2
	wantPut(t, p, 1, "b", 0)
	want(t, "Drop", p.Drop(1), api.OK)
	wantActs(t, d, 0, 0, 0, func() {
		for _, block := range []int{1, 2, 3, 8, 9, 10, 16, 65535, 1 << 40, -2, -3, math.MinInt, math.MaxInt} {
			wantNoPage(t, p, block, api.ErrBlock)
			want(t, "Drop", p.Drop(block), api.ErrBlock)
			want(t, "Commit of that root", p.Commit(block, 0, 0), api.ErrBlock)
			want(t, "Commit of that aux", p.Commit(0, block, 0), api.ErrBlock)
		}
		wantNoPage(t, p, -1, api.ErrBlock)
		want(t, "Drop(-1)", p.Drop(-1), api.ErrBlock)
	})
	wantSuper(t, p, 2, -1, -1, 3)
	wantLeft(t, p, 5)
}

// P4.7: whether a dropped block is open hangs on the mark and on the last settling.
func TestDropKeepsWhatMayBeNeeded(t *testing.T) {
	d, p := formatted(t, wide)
	wantPut(t, p, 1, "a", 1)
	wantPut(t, p, 1, "b", 2)
	want(t, "Commit", p.Commit(1, 2, 0), api.OK) // the map goes to block 3
	wantPut(t, p, 1, "c", 0)
	wantLeft(t, p, 4)
	wantActs(t, d, 0, 0, 0, func() {
		want(t, "Drop", p.Drop(1), api.OK)
		wantLeft(t, p, 4)
		want(t, "Drop", p.Drop(0), api.OK)
		wantLeft(t, p, 5)
		want(t, "Drop", p.Drop(0), api.ErrBlock)
	})
	wantPut(t, p, 1, "d", 0)
	wantPut(t, p, 1, "e", 4)
	want(t, "Commit", p.Commit(-1, -1, 0), api.OK) // the map goes to block 5; 1 and 3 are open now
	wantPut(t, p, 1, "f", 1)
	wantPut(t, p, 1, "g", 3)
}

// P4.8: the errors, and that the disk is not touched.
func TestOperationErrors(t *testing.T) {
	d, p := formatted(t, tiny)
	wantActs(t, d, 0, 0, 0, func() {
		want(t, "Keep", p.Keep(), api.ErrOp)
		want(t, "Cancel", p.Cancel(), api.ErrOp)
		for range 2 {
			want(t, "Begin", p.Begin(), api.OK)
			want(t, "Begin", p.Begin(), api.ErrOp)
			want(t, "Commit", p.Commit(-1, -1, 0), api.ErrOp)
			want(t, "Commit of no page", p.Commit(77, -1, 0), api.ErrOp)
			want(t, "Keep", p.Keep(), api.OK)
			want(t, "Keep", p.Keep(), api.ErrOp)
			want(t, "Begin", p.Begin(), api.OK)
			want(t, "Cancel", p.Cancel(), api.OK)
			want(t, "Cancel", p.Cancel(), api.ErrOp)
		}
		killed(t, d)
		want(t, "Begin", p.Begin(), api.OK)
		want(t, "Keep", p.Keep(), api.OK)
		want(t, "Begin", p.Begin(), api.OK)
		want(t, "Cancel", p.Cancel(), api.OK)
	})
}

// P4.5, P4.8: a Put that fails inside an operation leaves what the operation did before.
func TestFailedPutInsideAnOperation(t *testing.T) {
	d, p := formatted(t, wide)
	wantPut(t, p, 1, "a", 1)
	want(t, "Begin", p.Begin(), api.OK)
	wantPut(t, p, 2, "b", 2)
	want(t, "Drop", p.Drop(1), api.OK)
	want(t, "Arm", d.Arm(1), api.OK)
	wantNoPut(t, p, "c", api.ErrPower)
	wantLeft(t, p, 5)
	wantNoPage(t, p, 1, api.ErrBlock)
	wantNoPage(t, p, 2, api.ErrPower)
	wantNoPage(t, p, 3, api.ErrBlock)
	want(t, "Cancel", p.Cancel(), api.OK)
	wantLeft(t, p, 6)
	wantNoPage(t, p, 1, api.ErrPower)
	wantNoPage(t, p, 2, api.ErrBlock)
}

// P4.9: the map page, a flush, the super sector, a flush: told by what waits when the power goes with each write in turn.
func TestCommitWritesInOrder(t *testing.T) {
	for n := range wide.Per + 2 {
		d, p := formatted(t, wide)
		wantPut(t, p, 1, "a", 1)
		wantPut(t, p, 1, "b", 2)
		pages := d.Pending()
		mapPage := cut(t, wide, 2+wide.Log+3*wide.Per, wide.Per, api.Frame{Kind: 'M', Gen: 2, Body: []byte{14, 0}})
		super := cut(t, wide, 0, 1, api.Frame{Kind: 'S', Gen: 2, Body: superBody(wide, 1, 2, 3, 1<<63+5)})
		want(t, "Arm", d.Arm(n), api.OK)
		was := d.Stats()
		e := p.Commit(1, 2, 1<<63+5)
		var waiting []api.Write
		switch {
		case n < wide.Per:
			waiting = slices.Concat(pages, mapPage[:n+1])
		case n == wide.Per:
			waiting = super
		}
		if !sameWrites(d.Pending(), waiting) {
			t.Fatalf("with %d writes: Pending is %v, want %v", n, d.Pending(), waiting)
		}
		if n <= wide.Per {
			want(t, "Commit without power", e, api.ErrPower)
			wantSuper(t, p, 1, -1, -1, 0)
			wantLeft(t, p, 5)
			wantNoPage(t, p, 3, api.ErrBlock)
			want(t, "Drop", p.Drop(1), api.OK)
			wantLeft(t, p, 6)
			continue
		}
		want(t, "Commit", e, api.OK)
		wantSuper(t, p, 2, 1, 2, 1<<63+5)
		wantLeft(t, p, 5)
		if now := d.Stats(); now.Writes-was.Writes != wide.Per+1 || now.Flushes-was.Flushes != 2 || now.Reads != was.Reads {
			t.Errorf("Commit asked the disk %v, %v before", now, was)
		}
		if super := d.Image()[:wide.Sector]; !bytes.Equal(super, cut(t, wide, 0, 1, api.Frame{Kind: 'S', Gen: 2, Body: superBody(wide, 1, 2, 3, 1<<63+5)})[0].Bytes) {
			t.Errorf("the super sector is %v", super)
		}
	}
}

// P4.9: root and aux: both, one, none, the same.
func TestCommitNames(t *testing.T) {
	d, p := formatted(t, wide)
	wantPut(t, p, 1, "a", 1)
	wantPut(t, p, 1, "b", 2)
	for n, c := range [][2]int{{1, 2}, {2, 1}, {1, 1}, {-1, 2}, {2, -1}, {-1, -1}} {
		gen, seq := uint64(n+2), uint64(1000*n)
		want(t, "Commit", p.Commit(c[0], c[1], seq), api.OK)
		wantSuper(t, p, gen, c[0], c[1], seq)
		wantSuper(t, opened(t, d), gen, c[0], c[1], seq)
	}
}

// P4.10: one block is kept for the map, and Commit never lacks it.
func TestLeftKeepsABlockForTheMap(t *testing.T) {
	_, p := formatted(t, tiny)
	wantPut(t, p, 1, "a", 1)
	wantPut(t, p, 1, "b", 2)
	for seq := range 10 {
		wantLeft(t, p, 0)
		wantNoPut(t, p, "c", api.ErrFull)
		want(t, "Commit", p.Commit(1, 2, uint64(seq)), api.OK)
		wantPage(t, p, 1, 1, 2, "a")
		wantPage(t, p, 2, 1, 2, "b")
	}
}

// P4.13, R5.
func TestNothingIsShared(t *testing.T) {
	_, p := formatted(t, wide)
	backing := []byte("body and behind")
	block, e := p.Put(3, backing[:4])
	want(t, "Put", e, api.OK)
	if string(backing) != "body and behind" {
		t.Errorf("Put changed what it was given: %q", backing)
	}
	copy(backing, "xxxxxxxxxxxxxxx")
	first, _ := p.Get(block)
	second, _ := p.Get(block)
	first.Body = append(first.Body, "more"...)
	copy(first.Body, "yyyyyyyy")
	if string(second.Body) != "body" {
		t.Errorf("two answers share their bytes: %q", second.Body)
	}
	wantPage(t, p, block, 3, 2, "body")
}

// R3.
func TestNilPager(t *testing.T) {
	var p *pager.Pager
	wantNoPut(t, p, strings.Repeat("x", 9000), api.ErrArg)
	wantNoPage(t, p, 0, api.ErrArg)
	want(t, "Drop", p.Drop(-1), api.ErrArg)
	want(t, "Begin", p.Begin(), api.ErrArg)
	want(t, "Keep", p.Keep(), api.ErrArg)
	want(t, "Cancel", p.Cancel(), api.ErrArg)
	want(t, "Commit", p.Commit(-1, -1, 0), api.ErrArg)
	wantLeft(t, p, 0)
	wantSuper(t, p, 0, 0, 0, 0)
	if g := p.Geometry(); g != (api.Geometry{}) {
		t.Errorf("Geometry of a nil pager = %v", g)
	}
}
