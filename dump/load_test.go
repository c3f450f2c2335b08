package dump_test

import (
	"bytes"
	"math"
	"slices"
	"testing"

	"arbor/api"
	"arbor/disk"
	"arbor/drill"
	"arbor/dump"
	"arbor/pager"
	"arbor/store"
)

// byHand: what P22.4 says that Load does to a disk, call by call.
func byHand(d *disk.Disk, g api.Geometry, c api.Config, s api.Schema, list []api.Entry) api.Errno {
	x, e := drill.Filled(d, g, c, s, list)
	if e != api.OK {
		return e
	}
	return x.Checkpoint()
}

// holds: has a store just these entries?
func holds(t *testing.T, what string, x *store.Store, list []api.Entry) {
	t.Helper()
	got, e := x.Scan("", "", math.MaxInt)
	if e != api.OK || !drill.SameEntries(got, list) {
		t.Fatalf("%s: Scan = %s, %d, want %s", what, drill.ShownEntries(x.Schema(), got), e, drill.ShownEntries(x.Schema(), list))
	}
}

// loads: Load does to the disk what is done by hand to another one, and the store holds the entries: those that are durable, too.
func loads(t *testing.T, b []byte, size int, s api.Schema, list []api.Entry, g api.Geometry, c api.Config) *store.Store {
	t.Helper()
	d, twin := drill.NewDisk(g), drill.NewDisk(g)
	x, e := dump.Load(b, size, d, g, c)
	if want := byHand(twin, g, c, s, list); e != want || e != api.OK || x == nil {
		t.Fatalf("%v, %v: Load of %d entries = %v, %d; by hand %d", g, c, len(list), x, e, want)
	}
	if !drill.SameDisks(d, twin) {
		t.Fatalf("%v, %v: Load leaves another disk than Create, Put and Checkpoint", g, c)
	}
	if x.Seq() != uint64(len(list)) || x.Mode() != api.ModeOpen || x.Geometry() != g || x.Config() != c || !slices.Equal(x.Schema().Fields, s.Fields) {
		t.Fatalf("%v, %v: Seq %d, Mode %d, Geometry %v, Config %v, Schema %v", g, c, x.Seq(), x.Mode(), x.Geometry(), x.Config(), x.Schema())
	}
	holds(t, "loaded", x, list)
	again, e := store.Open(d.Survive(nil))
	if e != api.OK || again.Seq() != uint64(len(list)) || len(d.Pending()) > 0 {
		t.Fatalf("%v, %v: what was loaded is not durable: Open = %d", g, c, e)
	}
	holds(t, "loaded, and opened anew", again, list)
	return x
}

// P22.4, P22.5, W8: onto every geometry and configuration with just the blocks that W3 asks for.
func TestLoad(t *testing.T) {
	numbers := drill.Numbers(641)
	for _, keys := range []int{0, 1, 2, 3, 17, 60} {
		for i, c := range drill.Measures() {
			s, size := drill.Schemas()[i%2], drill.Pick(&numbers, sizes())
			list, b := some(&numbers, s, keys, size)
			g := drill.GeometryOf(c, 8*len(list)+16)
			loads(t, b, size, s, list, g, c)
			g.Log = 2 + numbers.Below(30)
			loads(t, b, size, s, list, g, c)
		}
	}
}

// P22.4: the store that was loaded takes changes as any other one.
func TestLoadedStoresGoOn(t *testing.T) {
	numbers := drill.Numbers(642)
	for i, c := range drill.Measures()[:4] {
		s := drill.Schemas()[i%2]
		list, b := some(&numbers, s, 30, 200)
		x := loads(t, b, 200, s, list, drill.GeometryOf(c, 400), c)
		sh := drill.Shop{Schema: s, Config: c, Store: x, Rows: map[string]api.Row{}, Seq: uint64(len(list))}
		for _, entry := range list {
			sh.Rows[entry.Key] = api.Row{Here: true, Vals: entry.Vals}
		}
		f := drill.Fitting{Schema: s, Numbers: &numbers}
		for range 100 {
			sh.Do(f.Change(drill.SomeKey(&numbers, 40)))
		}
		holds(t, "changed", sh.Store, sh.Entries())
		if sh.Store.Seq() != sh.Seq {
			t.Errorf("Seq = %d, want %d", sh.Store.Seq(), sh.Seq)
		}
	}
}

// P22.4: whatever the disk held, and however many sectors stand behind those that are needed.
func TestLoadOverAnotherStore(t *testing.T) {
	numbers := drill.Numbers(643)
	s := drill.SchemaOf("n:int,tag:bytes?")
	sh := grown(t, drill.Schemas()[0], drill.Measures()[0], &numbers, 20)
	list, b := some(&numbers, s, 10, 300)
	g := sh.Geometry
	g.Blocks = 8*len(list) + 16
	for range 2 {
		x, e := dump.Load(b, 300, sh.Disk, g, sh.Config)
		if e != api.OK {
			t.Fatalf("Load = %d", e)
		}
		holds(t, "over another store", x, list)
		list, b = some(&numbers, s, 5, 300)
	}
	rubbish := bytes.Repeat([]byte{'S'}, pager.Sectors(g)*g.Sector)
	d, _ := disk.FromImage(rubbish, g.Sector)
	x, e := dump.Load(b, 300, d, g, sh.Config)
	if e != api.OK {
		t.Fatalf("Load = %d", e)
	}
	holds(t, "over rubbish", x, list)
}

// wrongLoad: arguments of Load that are refused.
type wrongLoad struct {
	what string
	b    []byte
	size int
	d    *disk.Disk
	g    api.Geometry
	c    api.Config
	want api.Errno
}

// P22.4: the errors, in their order; none of these writes or flushes anything.
func TestLoadOfWrongArguments(t *testing.T) {
	numbers := drill.Numbers(644)
	_, b := some(&numbers, drill.Schemas()[0], 10, 160)
	c := drill.Measures()[0]
	g := drill.GeometryOf(c, 100)
	noBlocks, none := g, api.Geometry{}
	noBlocks.Blocks = 3
	d, dead := drill.NewDisk(g), drill.NewDisk(g)
	small, _ := disk.New(pager.Sectors(g)-1, g.Sector)
	other, _ := disk.New(pager.Sectors(g), g.Sector+1)
	drill.Kill(dead)
	bad, high := b[:320], c
	high.Leaf = 64
	list := []wrongLoad{
		{"nil, of no dump", bad, 160, nil, none, api.Config{}, api.ErrArg}, {"nil", b, 160, nil, g, c, api.ErrArg}, {"nil, of no bytes", nil, 160, nil, g, c, api.ErrArg},
		{"no dump, dead", bad, 160, dead, g, c, api.ErrDump}, {"no dump, no geometry", bad, 160, d, none, c, api.ErrDump}, {"no dump, no configuration", bad, 160, d, g, api.Config{}, api.ErrDump}, {"no dump", bad, 160, d, g, c, api.ErrDump}, {"no dump, a small disk", bad, 160, small, g, c, api.ErrDump}, {"no bytes", nil, 160, d, g, c, api.ErrDump}, {"another size", b, 161, d, g, c, api.ErrDump},
		{"dead", b, 160, dead, g, c, api.ErrPower}, {"dead, no geometry", b, 160, dead, none, c, api.ErrPower}, {"dead, no configuration", b, 160, dead, g, api.Config{}, api.ErrPower},
		{"no geometry", b, 160, d, none, c, api.ErrGeometry}, {"no blocks", b, 160, d, noBlocks, c, api.ErrGeometry}, {"no geometry, no configuration", b, 160, d, none, api.Config{}, api.ErrGeometry}, {"a small disk", b, 160, small, g, c, api.ErrGeometry}, {"sectors of another size", b, 160, other, g, c, api.ErrGeometry}, {"a small disk, no configuration", b, 160, small, g, high, api.ErrGeometry},
		{"no configuration", b, 160, d, g, api.Config{}, api.ErrConfig}, {"measures that have no room", b, 160, d, g, high, api.ErrConfig},
	}
	for _, size := range wrongSizes() {
		for _, d := range []*disk.Disk{nil, d, dead, small} {
			list = append(list, wrongLoad{"no size", b, size, d, g, c, api.ErrArg}, wrongLoad{"no size, no dump", nil, size, d, none, api.Config{}, api.ErrArg})
		}
	}
	for _, x := range list {
		stats, image, waiting := x.d.Stats(), x.d.Image(), len(x.d.Pending())
		if got, e := dump.Load(x.b, x.size, x.d, x.g, x.c); got != nil || e != x.want {
			t.Errorf("%s: Load = %v, %d, want %d", x.what, got, e, x.want)
		}
		if now := x.d.Stats(); now.Writes != stats.Writes || now.Flushes != stats.Flushes || !bytes.Equal(x.d.Image(), image) || len(x.d.Pending()) != waiting {
			t.Errorf("%s: Load writes or flushes", x.what)
		}
	}
}

// P22.4: where there is no room: ErrFull, and the disk holds a store with some first entries, as it would by hand.
func TestLoadWithoutRoom(t *testing.T) {
	numbers := drill.Numbers(645)
	met := map[api.Errno]int{}
	for i, c := range drill.Measures()[:4] {
		s := drill.Schemas()[i%2]
		list, b := some(&numbers, s, 30, 256)
		for blocks := 4; blocks < 60; blocks++ {
			g := drill.GeometryOf(c, blocks)
			d, twin := drill.NewDisk(g), drill.NewDisk(g)
			x, e := dump.Load(b, 256, d, g, c)
			met[e]++
			if want := byHand(twin, g, c, s, list); e != want || (x == nil) == (e == api.OK) || !drill.SameDisks(d, twin) {
				t.Fatalf("%v, %d blocks: Load = %v, %d, by hand %d", c, blocks, x, e, want)
			}
			left, e := store.Open(d)
			if e != api.OK || left.Seq() > uint64(len(list)) {
				t.Fatalf("%v, %d blocks: Open = %d", c, blocks, e)
			}
			holds(t, "what has room", left, list[:left.Seq()])
		}
	}
	if met[api.OK] < 20 || met[api.ErrFull] < 20 || len(met) != 2 {
		t.Errorf("Load answered %v", met)
	}
}

// P22.4, W2: whenever the power goes: ErrPower, and behind Create what survives is a store with some first entries.
func TestLoadWithoutPower(t *testing.T) {
	numbers := drill.Numbers(646)
	c := drill.Measures()[0]
	s := drill.SchemaOf("n:int,tag:bytes?")
	list, b := some(&numbers, s, 9, 160)
	g := drill.GeometryOf(c, 8*len(list)+16)
	fresh := drill.NewDisk(g)
	if _, e := store.Create(fresh, g, c, s); e != api.OK {
		t.Fatalf("Create = %d", e)
	}
	created, parted := fresh.Stats().Writes, 0
	for writes := 0; ; writes++ {
		d := drill.NewDisk(g)
		d.Arm(writes)
		x, e := dump.Load(b, 160, d, g, c)
		if e == api.OK {
			if d.Stats().Writes != writes || x == nil {
				t.Errorf("%d writes go well: Load = %v, %d behind %d", writes, x, e, d.Stats().Writes)
			}
			break
		}
		if e != api.ErrPower || x != nil || !d.Dead() {
			t.Fatalf("%d writes go well: Load = %v, %d", writes, x, e)
		}
		for range 20 {
			left, e := store.Open(d.Survive(numbers.Keep(len(d.Pending()))))
			if writes < created {
				continue // nothing is promised yet
			}
			if e != api.OK || left.Seq() > uint64(len(list)) {
				t.Fatalf("%d writes went well: Open = %d", writes, e)
			}
			holds(t, "what survived", left, list[:left.Seq()])
			if left.Seq() > 0 && left.Seq() < uint64(len(list)) {
				parted++
			}
		}
	}
	if parted < 20 {
		t.Errorf("%d times some first entries survived", parted)
	}
}
