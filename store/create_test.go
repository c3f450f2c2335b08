package store_test

import (
	"bytes"
	"math"
	"slices"
	"testing"

	"arbor/api"
	"arbor/disk"
	"arbor/drill"
	"arbor/pager"
	"arbor/store"
	"arbor/value"
)

// wrongGeometries: for the example's disk, of 530 sectors of 64 bytes.
func wrongGeometries() []api.Geometry {
	return []api.Geometry{
		{}, {Sector: 64, Per: 4, Log: 17, Blocks: 128}, {Sector: 64, Per: 4, Log: 16, Blocks: 129}, {Sector: 65, Per: 4, Log: 16, Blocks: 128}, {Sector: 128, Per: 4, Log: 2, Blocks: 4},
		{Sector: 64, Per: 4, Log: 16, Blocks: 3}, {Sector: 64, Per: 4, Log: 1, Blocks: 128}, {Sector: 64, Per: 0, Log: 16, Blocks: 128}, {Sector: 64, Per: 9, Log: 16, Blocks: 4},
		{Sector: 63, Per: 4, Log: 16, Blocks: 128}, {Sector: 64, Per: math.MaxInt, Log: 16, Blocks: 128}, {Sector: math.MinInt, Per: -1, Log: math.MaxInt, Blocks: math.MaxInt},
	}
}

// wrongMeasures: for a page of 256 bytes.
func wrongMeasures() []api.Config {
	return []api.Config{
		{}, {Fanout: 4, Leaf: 2, Buffer: 114}, {Fanout: 3, Leaf: 2, Buffer: 115}, {Fanout: 4, Leaf: 1, Buffer: 115}, {Fanout: 4, Leaf: 3, Buffer: 115},
		{Fanout: 4, Leaf: 2, Buffer: 179}, {Fanout: 8, Leaf: 2, Buffer: 115}, {Fanout: 4, Leaf: 2, Buffer: math.MaxInt}, {Fanout: math.MinInt, Leaf: 2, Buffer: 115},
		{Fanout: 4 + 256, Leaf: 2, Buffer: 115}, {Fanout: 4, Leaf: 2 + 256, Buffer: 115}, {Fanout: 4, Leaf: 2, Buffer: 115 + 65536},
	}
}

// P18.1, R2, R3, R9: the errors in their order: the disk is nil, dead; the schema, the geometry, the configuration. The disk is not touched.
func TestWrongCreates(t *testing.T) {
	right := drill.SchemaOf(exampleText)
	schemas := append(drill.WrongSchemas(), right)
	geometries, measures := append(wrongGeometries(), exampleSize), append(wrongMeasures(), exampleMeasures)
	dead := newDisk(t, exampleSize)
	dead.Arm(0)
	dead.Write(5, bytes.Repeat([]byte{7}, 64))
	alive := newDisk(t, exampleSize)
	alive.Write(1, bytes.Repeat([]byte{7}, 64))
	for i, s := range schemas {
		for j, g := range geometries {
			for k, c := range measures {
				want := api.OK
				switch {
				case i < len(schemas)-1:
					want = api.ErrSchema
				case j < len(geometries)-1:
					want = api.ErrGeometry
				case k < len(measures)-1:
					want = api.ErrConfig
				default:
					continue
				}
				refusedCreate(t, nil, g, c, s, api.ErrArg)
				refusedCreate(t, dead, g, c, s, api.ErrPower)
				refusedCreate(t, alive, g, c, s, want)
			}
		}
	}
	refusedCreate(t, nil, exampleSize, exampleMeasures, right, api.ErrArg)
	refusedCreate(t, dead, exampleSize, exampleMeasures, right, api.ErrPower)
	small, _ := disk.New(529, 64)
	refusedCreate(t, small, exampleSize, exampleMeasures, right, api.ErrGeometry)
}

func refusedCreate(t *testing.T, d *disk.Disk, g api.Geometry, c api.Config, s api.Schema, want api.Errno) {
	t.Helper()
	was, pending := d.Stats(), len(d.Pending())
	if x, e := store.Create(d, g, c, s); x != nil || e != want {
		t.Fatalf("Create(%v, %v, %d fields) = %v, %d, want %d", g, c, len(s.Fields), x, e, want)
	}
	if d.Stats() != was || len(d.Pending()) != pending {
		t.Fatalf("Create(%v, %v), which is refused, touches the disk", g, c)
	}
}

// edge: a geometry, with measures for which its pages have just room.
type edge struct {
	g api.Geometry
	c api.Config
}

// edges: from the least to the greatest.
func edges() []edge {
	return []edge{
		{api.Geometry{Sector: 193, Per: 1, Log: 2, Blocks: 4}, api.Config{Fanout: 4, Leaf: 2, Buffer: 115}},
		{api.Geometry{Sector: 64, Per: 8, Log: 64, Blocks: 4}, api.Config{Fanout: 4, Leaf: 6, Buffer: 434}},
		{api.Geometry{Sector: 1024, Per: 8, Log: 6, Blocks: 2047}, api.Config{Fanout: 64, Leaf: 64, Buffer: 6974}},
		{api.Geometry{Sector: 1024, Per: 1, Log: 64, Blocks: 40}, api.Config{Fanout: 4, Leaf: 12, Buffer: 946}},
		{api.Geometry{Sector: 64, Per: 5, Log: 7, Blocks: 2048}, api.Config{Fanout: 4, Leaf: 3, Buffer: 242}},
	}
}

// P18.1, P18.3: what is on the disk then: the commit of generation 2 with an empty leaf and the catalog, and no log. What the disk held before does not matter.
func TestCreate(t *testing.T) {
	for _, at := range edges() {
		g, c := at.g, at.c
		for _, s := range drill.Schemas() {
			d, _ := disk.New(min(pager.Sectors(g)+3, api.MaxSectors), g.Sector)
			for at := range pager.Sectors(g) {
				d.Write(at, bytes.Repeat([]byte{byte(at) | 1}, g.Sector))
			}
			was := d.Stats()
			x, e := store.Create(d, g, c, s)
			if e != api.OK || x == nil {
				t.Fatalf("Create(%v, %v) = %v, %d", g, c, x, e)
			}
			is := d.Stats()
			if is.Reads != was.Reads || is.Writes-was.Writes != 1+g.Log+4*g.Per+2 || is.Flushes-was.Flushes != 4 || len(d.Pending()) > 0 {
				t.Errorf("Create(%v, %v): %v behind %v", g, c, is, was)
			}
			if x.Mode() != api.ModeOpen || x.Seq() != 0 || x.Geometry() != g || x.Config() != c || !slices.Equal(x.Schema().Fields, s.Fields) {
				t.Errorf("Create(%v, %v): %d, %d, %v, %v, %v", g, c, x.Mode(), x.Seq(), x.Geometry(), x.Config(), x.Schema())
			}
			newlyCreated(t, d, g, c, s)
		}
	}
}

func newlyCreated(t *testing.T, d *disk.Disk, g api.Geometry, c api.Config, s api.Schema) {
	t.Helper()
	p, e := pager.Open(d)
	if e != api.OK {
		t.Fatalf("pager.Open = %d", e)
	}
	last := p.Super()
	if last.Gen != 2 || last.Seq != 0 || len(drill.Pages(p)) != 2 {
		t.Errorf("the commit %v, of the pages %v", last, drill.Pages(p))
	}
	text, _ := value.PrintSchema(s)
	if f, e := p.Get(last.Aux); e != api.OK || f.Kind != 'C' || !bytes.Equal(f.Body, catalogText(c, text)) {
		t.Errorf("the catalog: %v, %d", f, e)
	}
	if f, e := p.Get(last.Root); e != api.OK || f.Kind != 'L' || string(f.Body) != "\x01\x00" {
		t.Errorf("the root: %v, %d", f, e)
	}
	for k := range g.Log {
		if b, _ := d.Read(2 + k); !bytes.Equal(b, make([]byte, g.Sector)) {
			t.Errorf("the log's sector %d is written", k)
		}
	}
	x := opened(t, d)
	if list, e := x.Scan("", "", 9); len(list) > 0 || e != api.OK || x.Seq() != 0 || x.Mode() != api.ModeOpen {
		t.Errorf("it holds %v, Seq = %d", list, x.Seq())
	}
}

// P18.1: over an earlier store nothing of it is left, not in its log either.
func TestCreateOverAStore(t *testing.T) {
	numbers := drill.Numbers(331)
	for _, c := range drill.Measures() {
		w := grown(t, c, &numbers, 9, 20)
		for range 3 {
			w.doAll("put z {n=1}")
			w.x, _ = store.Create(w.d, w.g, w.c, w.s)
			w.past = []map[string]api.Row{{}}
			w.isNow()
			w.holds(opened(t, w.d.Survive(everything(w.d))), w.rows())
			w.holds(opened(t, w.d.Survive(nil)), w.rows())
			w.doAll("put a {n=1}", "put b {n=2}")
			w.sync()
			w.holds(opened(t, w.d.Survive(nil)), w.rows())
		}
	}
}

// P18.1: ErrPower, whichever write the power goes with; a store can be created on what survives.
func TestCreateWithoutPower(t *testing.T) {
	numbers := drill.Numbers(332)
	s := drill.SchemaOf(exampleText)
	e := api.ErrPower
	arm := 0
	for ; e == api.ErrPower; arm++ {
		d := newDisk(t, exampleSize)
		d.Arm(arm)
		var x *store.Store
		if x, e = store.Create(d, exampleSize, exampleMeasures, s); (x == nil) != (e != api.OK) {
			t.Fatalf("armed with %d Create = %v, %d", arm, x, e)
		}
		after := d.Survive(numbers.Keep(len(d.Pending())))
		if x, e := store.Create(after, exampleSize, exampleMeasures, s); x == nil || e != api.OK {
			t.Fatalf("armed with %d, then Create = %v, %d", arm, x, e)
		}
		newlyCreated(t, after, exampleSize, exampleMeasures, s)
	}
	if e != api.OK || arm != 1+16+4*4+2+1 {
		t.Errorf("Create = %d, with %d writes", e, arm-1)
	}
}

// P18.3: what a store was created with it still is when it is opened anew, wherever it was in its life.
func TestWhatAStoreIs(t *testing.T) {
	numbers := drill.Numbers(333)
	for _, at := range edges() {
		g, c := at.g, at.c
		w := found(t, g, c, drill.Pick(&numbers, drill.Schemas()))
		f := drill.Fitting{Schema: w.s, Numbers: &numbers}
		for range 12 {
			if e := w.try(some(f, 9, 3)...); e == api.ErrFull || numbers.Below(3) == 0 {
				w.reopen()
			}
			if w.x.Geometry() != g || w.x.Config() != c || !slices.Equal(w.x.Schema().Fields, w.s.Fields) || w.x.Mode() != api.ModeOpen {
				t.Fatalf("%v, %v: %v, %v, %v, %d", g, c, w.x.Geometry(), w.x.Config(), w.x.Schema(), w.x.Mode())
			}
			w.isNow()
		}
	}
}
