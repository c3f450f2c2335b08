package migrate_test

import (
	"bytes"
	"math"
	"sync"
	"testing"

	"arbor/api"
	"arbor/disk"
	"arbor/drill"
	"arbor/lower"
	"arbor/migrate"
	"arbor/pager"
	"arbor/store"
)

// moves: Store does to a disk what is done by hand to another one, the store there holds the edited entries, those that are durable too, and the store that was carried over is as it was.
func (sh *shop) moves(g api.Geometry, c api.Config, es []api.Edit) *store.Store {
	sh.t.Helper()
	was := sh.look()
	d, twin := drill.NewDisk(g), drill.NewDisk(g)
	x, e := migrate.Store(sh.Store, d, g, c, es...)
	target, errno := bookTarget(sh.Schema, es)
	list := sh.edited(es)
	if want := byHand(twin, g, c, target, list); errno != api.OK || e != want || e != api.OK || x == nil {
		sh.t.Fatalf("%v, %v: Store of %d entries by %s = %v, %d; by hand %d", g, c, len(list), shown(es), x, e, want)
	}
	if !drill.SameDisks(d, twin) {
		sh.t.Fatalf("%v, %v: Store leaves another disk than Create, Put and Sync", g, c)
	}
	if x.Seq() != uint64(len(list)) || x.Mode() != api.ModeOpen || x.Geometry() != g || x.Config() != c || !sameSchema(x.Schema(), target) {
		sh.t.Fatalf("%v, %v: Seq %d, Mode %d, Geometry %v, Config %v, Schema %v", g, c, x.Seq(), x.Mode(), x.Geometry(), x.Config(), x.Schema())
	}
	holds(sh.t, "carried over", x, list)
	again, e := store.Open(d.Survive(nil))
	if e != api.OK || again.Seq() != uint64(len(list)) || len(d.Pending()) > 0 {
		sh.t.Fatalf("%v, %v: what was carried over is not durable: Open = %d", g, c, e)
	}
	holds(sh.t, "carried over, and opened anew", again, list)
	sh.isAs(was)
	holds(sh.t, "as it was", sh.Store, sh.Entries())
	return x
}

// P23.7, W8: out of and onto every geometry and configuration, with just the blocks that W3 asks for.
func TestStore(t *testing.T) {
	numbers := drill.Numbers(341)
	for _, keys := range []int{0, 1, 2, 3, 17, 60} {
		for i, from := range drill.Measures() {
			sh := grown(t, drill.Schemas()[i%2], from, &numbers, keys)
			for _, many := range []int{0, 1, 3, 16} {
				c := drill.Pick(&numbers, drill.Measures())
				g := drill.GeometryOf(c, 8*len(sh.Entries())+16)
				sh.moves(g, c, fittingEdits(&numbers, sh.Schema, many))
				g.Log = 2 + numbers.Below(30)
				sh.moves(g, c, fittingEdits(&numbers, sh.Schema, many))
			}
		}
	}
}

// P23.7: what is not synced is carried over too, and so is a store that takes no changes any more.
func TestStoreThatIsReadOnly(t *testing.T) {
	numbers := drill.Numbers(342)
	s, c := drill.SchemaOf("n:int,m:int?"), drill.Measures()[0]
	for blocks := 4; blocks < 20; blocks++ {
		sh := newShop(t, s, c, blocks)
		for number := 0; sh.Store.Mode() == api.ModeOpen; number++ {
			sh.Try(drill.ChangeOf(s, "put "+drill.Key(1000+5*number)+" {n=7}"))
		}
		sh.moves(drill.GeometryOf(c, 8*len(sh.Rows)+16), c, fittingEdits(&numbers, s, 2))
		if sh.Store.Mode() != api.ModeReadOnly {
			t.Errorf("%d blocks: Mode = %d", blocks, sh.Store.Mode())
		}
	}
}

// P23.7, P23.6: the store that was carried over goes on with the programs that were, too.
func TestStoresGoOn(t *testing.T) {
	numbers := drill.Numbers(343)
	asked := 0
	for i, c := range drill.Measures()[:4] {
		sh := grown(t, drill.Schemas()[i%2], c, &numbers, 20)
		f := drill.Fitting{Schema: sh.Schema, Numbers: &numbers}
		for range 8 {
			es := fittingEdits(&numbers, sh.Schema, 1+numbers.Below(3))
			x := sh.moves(drill.GeometryOf(c, 8*40+16), c, es)
			for range 30 {
				src, key := f.Source(), drill.SomeKey(&numbers, 30)
				q, e := migrate.Program(sh.Schema, drill.ProgramOf(src), es...)
				if e != api.OK {
					continue
				}
				if _, e, _ := lower.Compile(x.Schema(), drill.Shown(q)); e != api.OK {
					continue // it is too long by now
				}
				sh.Do(api.Change{Kind: api.MUpsert, Key: key, Src: src})
				if e := x.Upsert(key, drill.Shown(q)); e != api.OK {
					t.Fatalf("Upsert of %s = %d", drill.Shown(q), e)
				}
				asked++
			}
			holds(t, "gone on", x, sh.edited(es))
		}
	}
	if asked < 300 {
		t.Errorf("%d programs were carried over", asked)
	}
}

// P23.7: whatever the disk held, and however many sectors stand behind those that are needed.
func TestStoreOverAnotherStore(t *testing.T) {
	numbers := drill.Numbers(344)
	sh := grown(t, drill.Schemas()[0], drill.Measures()[0], &numbers, 10)
	other := grown(t, drill.Schemas()[1], drill.Measures()[0], &numbers, 20)
	for range 3 {
		es := fittingEdits(&numbers, sh.Schema, 2)
		x, e := migrate.Store(sh.Store, other.Disk, other.Geometry, sh.Config, es...)
		if e != api.OK {
			t.Fatalf("Store = %d", e)
		}
		holds(t, "over another store", x, sh.edited(es))
	}
	rubbish := bytes.Repeat([]byte{'S'}, (pager.Sectors(other.Geometry)+7)*other.Geometry.Sector)
	d, _ := disk.FromImage(rubbish, other.Geometry.Sector)
	x, e := migrate.Store(sh.Store, d, other.Geometry, sh.Config)
	if e != api.OK {
		t.Fatalf("Store = %d", e)
	}
	holds(t, "over rubbish", x, sh.Entries())
}

// wrongMove: arguments of Store that are refused.
type wrongMove struct {
	what string
	x    *store.Store
	d    *disk.Disk
	g    api.Geometry
	c    api.Config
	es   []api.Edit
	want api.Errno
}

// P23.7: the errors, in their order; none of these writes or flushes anything.
func TestStoreOfWrongArguments(t *testing.T) {
	numbers := drill.Numbers(345)
	s, c := drill.SchemaOf("n:int,m:int?,on:bool"), drill.Measures()[0]
	sh, gone, torn := grown(t, s, c, &numbers, 10), grown(t, s, c, &numbers, 10), grown(t, s, c, &numbers, 10)
	drill.Kill(gone.Disk)
	for block := range torn.Geometry.Blocks {
		torn.Spoil(block)
	}
	g := drill.GeometryOf(c, 100)
	none, noBlocks, high := api.Geometry{}, g, c
	noBlocks.Blocks, high.Leaf = 3, 64
	d, dead := drill.NewDisk(g), drill.NewDisk(g)
	small, _ := disk.New(pager.Sectors(g)-1, g.Sector)
	other, _ := disk.New(pager.Sectors(g), g.Sector+1)
	drill.Kill(dead)
	good := editsOf("drop n; plain m")
	var list []wrongMove
	for _, es := range append(wrongEdits(), good, nil) {
		list = append(list, wrongMove{"no store", nil, d, g, c, es, api.ErrArg}, wrongMove{"no disk", sh.Store, nil, g, c, es, api.ErrArg}, wrongMove{"neither", nil, nil, none, api.Config{}, es, api.ErrArg}, wrongMove{"a dead store, no disk", gone.Store, nil, g, c, es, api.ErrArg}, wrongMove{"no store, a dead disk", nil, dead, none, c, es, api.ErrArg})
	}
	for _, es := range wrongEdits() {
		for _, x := range []*store.Store{sh.Store, gone.Store, torn.Store} {
			list = append(list, wrongMove{"no edits", x, d, g, c, es, api.ErrEdit}, wrongMove{"no edits, a dead disk", x, dead, g, c, es, api.ErrEdit}, wrongMove{"no edits, no geometry", x, d, none, api.Config{}, es, api.ErrEdit}, wrongMove{"no edits, a small disk", x, small, g, high, es, api.ErrEdit})
		}
	}
	for _, es := range [][]api.Edit{nil, good} {
		for _, on := range []*disk.Disk{d, dead, small, other} {
			for _, geometry := range []api.Geometry{g, none, noBlocks} {
				list = append(list, wrongMove{"a dead store", gone.Store, on, geometry, c, es, api.ErrPower}, wrongMove{"a damaged store", torn.Store, on, geometry, api.Config{}, es, api.ErrDamaged})
			}
		}
		list = append(list, []wrongMove{
			{"a dead disk", sh.Store, dead, g, c, es, api.ErrPower}, {"a dead disk, no geometry", sh.Store, dead, none, c, es, api.ErrPower}, {"a dead disk, no configuration", sh.Store, dead, g, api.Config{}, es, api.ErrPower},
			{"no geometry", sh.Store, d, none, c, es, api.ErrGeometry}, {"no blocks", sh.Store, d, noBlocks, c, es, api.ErrGeometry}, {"no geometry, no configuration", sh.Store, d, none, api.Config{}, es, api.ErrGeometry}, {"a small disk", sh.Store, small, g, c, es, api.ErrGeometry}, {"sectors of another size", sh.Store, other, g, c, es, api.ErrGeometry},
			{"no configuration", sh.Store, d, g, api.Config{}, es, api.ErrConfig}, {"measures that have no room", sh.Store, d, g, high, es, api.ErrConfig},
		}...)
	}
	for _, w := range list {
		stats, image, waiting, was := w.d.Stats(), w.d.Image(), len(w.d.Pending()), sh.look()
		if got, e := migrate.Store(w.x, w.d, w.g, w.c, w.es...); got != nil || e != w.want {
			t.Errorf("%s, by %s: Store = %v, %d, want %d", w.what, shown(w.es), got, e, w.want)
		}
		if w.d.Stats() != stats || !bytes.Equal(w.d.Image(), image) || len(w.d.Pending()) != waiting {
			t.Errorf("%s, by %s: Store touches the disk", w.what, shown(w.es))
		}
		sh.isAs(was)
	}
}

// P23.7: a page of the store that cannot be read: what Scan of all keys answers, and nothing is written.
func TestStoreOverDamage(t *testing.T) {
	numbers := drill.Numbers(346)
	met := map[api.Errno]int{}
	for i, c := range drill.Measures()[:4] {
		sh := grown(t, drill.Schemas()[i%2], c, &numbers, 30)
		es := fittingEdits(&numbers, sh.Schema, 2)
		g := drill.GeometryOf(c, 8*30+16)
		for block := range sh.Geometry.Blocks / 2 {
			undo := sh.Spoil(block)
			_, want := sh.Store.Scan("", "", math.MaxInt)
			met[want]++
			d := drill.NewDisk(g)
			x, e := migrate.Store(sh.Store, d, g, c, es...)
			if e != want || (x == nil) == (e == api.OK) {
				t.Fatalf("%v, block %d: Store = %v, %d, want %d", c, block, x, e, want)
			}
			if e == api.OK {
				holds(t, "over damage that does not matter", x, sh.edited(es))
			} else if d.Stats() != (api.DiskStats{}) {
				t.Fatalf("%v, block %d: Store touches the disk", c, block)
			}
			undo()
		}
	}
	if met[api.OK] < 100 || met[api.ErrDamaged] < 50 || len(met) != 2 {
		t.Errorf("Scan answered %v", met)
	}
}

// P23.7: where there is no room: ErrFull, and the disk is left as it is by hand.
func TestStoreWithoutRoom(t *testing.T) {
	numbers := drill.Numbers(347)
	met := map[api.Errno]int{}
	for i, c := range drill.Measures()[:4] {
		sh := grown(t, drill.Schemas()[i%2], c, &numbers, 30)
		for blocks := 4; blocks < 60; blocks++ {
			es := fittingEdits(&numbers, sh.Schema, numbers.Below(3))
			target, _ := bookTarget(sh.Schema, es)
			g := drill.GeometryOf(c, blocks)
			d, twin, was := drill.NewDisk(g), drill.NewDisk(g), sh.look()
			x, e := migrate.Store(sh.Store, d, g, c, es...)
			met[e]++
			if want := byHand(twin, g, c, target, sh.edited(es)); e != want || (x == nil) == (e == api.OK) || !drill.SameDisks(d, twin) {
				t.Fatalf("%v, %d blocks: Store = %v, %d, by hand %d", c, blocks, x, e, want)
			}
			sh.isAs(was)
		}
	}
	if met[api.OK] < 20 || met[api.ErrFull] < 20 || len(met) != 2 {
		t.Errorf("Store answered %v", met)
	}
}

// P23.7: whenever the power goes: ErrPower, no store, and the disk is left as it is by hand.
func TestStoreWithoutPower(t *testing.T) {
	numbers := drill.Numbers(348)
	s, c := drill.SchemaOf("n:int,tag:bytes?"), drill.Measures()[0]
	sh := grown(t, s, c, &numbers, 9)
	es := editsOf("plain tag; add on:bool?")
	target, _ := bookTarget(s, es)
	g := drill.GeometryOf(c, 8*9+16)
	for writes := 0; ; writes++ {
		d, twin, was := drill.NewDisk(g), drill.NewDisk(g), sh.look()
		d.Arm(writes)
		twin.Arm(writes)
		x, e := migrate.Store(sh.Store, d, g, c, es...)
		if want := byHand(twin, g, c, target, sh.edited(es)); e != want || (x == nil) == (e == api.OK) || !drill.SameDisks(d, twin) {
			t.Fatalf("%d writes go well: Store = %v, %d, by hand %d", writes, x, e, want)
		}
		sh.isAs(was)
		if e == api.OK {
			if d.Stats().Writes != writes || writes < 20 {
				t.Errorf("%d writes go well, and Store made %d", writes, d.Stats().Writes)
			}
			break
		}
		if e != api.ErrPower || !d.Dead() {
			t.Fatalf("%d writes go well: Store = %d", writes, e)
		}
	}
}

// R10: a store that is changed meanwhile is carried over as it was at one time: what goes from one key to another is never missed, nor met twice.
func TestStoreAmongChanges(t *testing.T) {
	s, c := drill.SchemaOf("n:int,m:int?"), drill.Measures()[0]
	sh := newShop(t, s, c, 256)
	for number := range 8 {
		sh.Do(drill.ChangeOf(s, "put "+drill.Key(number)+" {n=100}"))
	}
	var group sync.WaitGroup
	for worker := range 3 {
		group.Go(func() {
			numbers := drill.Numbers(350 + worker)
			for range 200 {
				from, to := drill.Key(numbers.Below(8)), drill.Key(numbers.Below(8))
				if e := sh.Store.Apply(drill.ChangeOf(s, "upsert "+from+" n += -7"), drill.ChangeOf(s, "upsert "+to+" n += 7")); e != api.OK {
					t.Errorf("Apply = %d", e)
				}
			}
		})
	}
	for range 3 {
		group.Go(func() {
			g := drill.GeometryOf(c, 100)
			for range 20 {
				d, _ := disk.New(pager.Sectors(g), g.Sector)
				x, e := migrate.Store(sh.Store, d, g, c, editsOf("drop m; rename n k")...)
				if e != api.OK {
					t.Errorf("Store = %d", e)
					return
				}
				list, e := x.Scan("", "", math.MaxInt)
				sum := int64(0)
				for _, entry := range list {
					sum += entry.Vals[0].N
				}
				if e != api.OK || len(list) != 8 || sum != 800 {
					t.Errorf("%d entries, %d, whose sum is %d", len(list), e, sum)
				}
			}
		})
	}
	group.Wait()
}
