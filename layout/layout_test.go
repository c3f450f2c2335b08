package layout_test

import (
	"math"
	"testing"

	"arbor/api"
	"arbor/frame"
	"arbor/layout"
)

var small = api.Geometry{Sector: 64, Per: 2, Log: 4, Blocks: 10}

func TestWhereThingsLie(t *testing.T) {
	if layout.LogAt != 2 || layout.BlockAt(small, 0) != 6 || layout.BlockAt(small, 9) != 24 || layout.Sectors(small) != 26 {
		t.Errorf("the log from %d, blocks from %d and %d, the end at %d", layout.LogAt, layout.BlockAt(small, 0), layout.BlockAt(small, 9), layout.Sectors(small))
	}
	if layout.PageSize(small) != 128 || layout.Room(small) != 113 || layout.SuperAt(7) != 1 || layout.SuperAt(8) != 0 {
		t.Errorf("pages of %d bytes, room for %d", layout.PageSize(small), layout.Room(small))
	}
}

// The edges of each part of a geometry, and of all together.
func TestWhichMayBe(t *testing.T) {
	for _, x := range []struct {
		g       api.Geometry
		sectors int
	}{
		{small, 26}, {api.Geometry{Sector: 64, Per: 1, Log: 2, Blocks: 4}, 8}, {api.Geometry{Sector: 1024, Per: 7, Log: 64, Blocks: 2048}, 14402},
		{api.Geometry{Sector: 64, Per: 1, Log: 2, Blocks: 392}, 396}, {api.Geometry{Sector: 64, Per: 1, Log: 2, Blocks: 393}, 0},
		{api.Geometry{Sector: 1024, Per: 8, Log: 30, Blocks: 2044}, 16384}, {api.Geometry{Sector: 1024, Per: 8, Log: 31, Blocks: 2044}, 0},
		{api.Geometry{Sector: 63, Per: 2, Log: 4, Blocks: 10}, 0}, {api.Geometry{Sector: 1025, Per: 2, Log: 4, Blocks: 10}, 0},
		{api.Geometry{Sector: 64, Per: 0, Log: 4, Blocks: 10}, 0}, {api.Geometry{Sector: 64, Per: 9, Log: 4, Blocks: 10}, 0},
		{api.Geometry{Sector: 64, Per: 2, Log: 1, Blocks: 10}, 0}, {api.Geometry{Sector: 64, Per: 2, Log: 65, Blocks: 10}, 0},
		{api.Geometry{Sector: 64, Per: 2, Log: 4, Blocks: 3}, 0}, {api.Geometry{Sector: 64, Per: 8, Log: 4, Blocks: 2049}, 0},
		{api.Geometry{}, 0}, {api.Geometry{Sector: math.MaxInt, Per: math.MaxInt, Log: math.MaxInt, Blocks: math.MaxInt}, 0}, {api.Geometry{Sector: 64, Per: 2, Log: 4, Blocks: math.MinInt}, 0},
	} {
		want := api.OK
		if x.sectors == 0 {
			want = api.ErrGeometry
		}
		if e := layout.Check(x.g); e != want || layout.Sectors(x.g) != x.sectors {
			t.Errorf("%v: %d, %d sectors, want %d", x.g, e, layout.Sectors(x.g), x.sectors)
		}
		room, less, other := layout.HasRoom(x.g, x.sectors, x.g.Sector), layout.HasRoom(x.g, x.sectors-1, x.g.Sector), layout.HasRoom(x.g, 16384, x.g.Sector+1)
		if room != (x.sectors > 0) || less || other {
			t.Errorf("%v has room on its own disk: %v, on a smaller one: %v, on one of other sectors: %v", x.g, room, less, other)
		}
	}
}

// What a super sector tells comes back from the sector that it belongs into, on a disk that has room.
func TestCommits(t *testing.T) {
	for _, c := range []layout.Commit{
		{Geometry: small, Super: api.Super{Gen: 1, Root: layout.None, Aux: layout.None}, MapBlock: 0},
		{Geometry: small, Super: api.Super{Gen: 6, Root: 3, Aux: 9, Seq: 77}, MapBlock: 4},
		{Geometry: small, Super: api.Super{Gen: api.MaxGen, Root: 0, Aux: layout.None, Seq: math.MaxUint64}, MapBlock: 9},
	} {
		b, e := frame.Seal(c.Frame(), small.Sector)
		if e != api.OK {
			t.Fatalf("Seal = %d", e)
		}
		at := int(c.Super.Gen % 2)
		if got := layout.Candidate(b, at, 26); got != c {
			t.Errorf("%+v comes back as %+v", c, got)
		}
		if got := layout.Candidate(b, 1-at, 26); got != (layout.Commit{}) {
			t.Errorf("%+v is believed in the other sector", got)
		}
		if got := layout.Candidate(b, at, 25); got != (layout.Commit{}) {
			t.Errorf("%+v is believed on a disk too small", got)
		}
		b[20] ^= 1
		if got := layout.Candidate(b, at, 26); got != (layout.Commit{}) {
			t.Errorf("%+v is believed of damaged bytes", got)
		}
	}
}

// What no commit of a store tells is not believed, though its sum is right.
func TestWrongCommits(t *testing.T) {
	refused := func(what string, f api.Frame) {
		t.Helper()
		b, e := frame.Seal(f, 64)
		if got := layout.Candidate(b, 0, 26); e != api.OK || got != (layout.Commit{}) {
			t.Errorf("%s: %+v is believed (%d)", what, got, e)
		}
	}
	right := layout.Commit{Geometry: small, Super: api.Super{Gen: 6, Root: 3, Aux: 9, Seq: 77}, MapBlock: 4}
	for what, spoil := range map[string]func(c *layout.Commit){
		"generation 0":               func(c *layout.Commit) { c.Super.Gen = 0 },
		"a generation above all":     func(c *layout.Commit) { c.Super.Gen = api.MaxGen + 2 },
		"a root behind the blocks":   func(c *layout.Commit) { c.Super.Root = 10 },
		"an aux behind the blocks":   func(c *layout.Commit) { c.Super.Aux = 10 },
		"a map behind the blocks":    func(c *layout.Commit) { c.MapBlock = 10 },
		"no map":                     func(c *layout.Commit) { c.MapBlock = layout.None },
		"sectors of another size":    func(c *layout.Commit) { c.Geometry.Sector = 65 },
		"a geometry that may not be": func(c *layout.Commit) { c.Geometry.Log = 1 },
	} {
		c := right
		spoil(&c)
		refused(what, c.Frame())
	}
	body := right.Frame().Body
	refused("another kind", api.Frame{Kind: api.KindMap, Gen: 6, Body: body})
	refused("a body too long", api.Frame{Kind: api.KindSuper, Gen: 6, Body: append(right.Frame().Body, 0)})
	refused("a body too short", api.Frame{Kind: api.KindSuper, Gen: 6, Body: body[:19]})
	if got := layout.Candidate(nil, 0, 26); got != (layout.Commit{}) {
		t.Errorf("no bytes: %+v is believed", got)
	}
}
