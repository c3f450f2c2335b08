package dump_test

import (
	"bytes"
	"math"
	"strings"
	"sync"
	"testing"

	"arbor/api"
	"arbor/disk"
	"arbor/drill"
	"arbor/dump"
	"arbor/pager"
	"arbor/store"
)

func sizes() []int {
	return []int{160, 161, 177, 200, 256, 511, 1024, 4097, 8191, 8192}
}

func wrongSizes() []int {
	return []int{159, 8193, 0, 15, 16, -1, -160, 1 << 20, 1<<32 + 160, math.MaxInt, math.MinInt}
}

// P22.1: the dump of stores of all measures, while they are changed: what waits in the tree and what is not synced is in it too.
func TestSave(t *testing.T) {
	numbers := drill.Numbers(611)
	for i, c := range drill.Measures() {
		s := drill.Schemas()[i%2]
		sh := newShop(t, s, c, 8*40+40)
		f := drill.Fitting{Schema: s, Numbers: &numbers}
		for round := range 80 {
			sh.saves(drill.Pick(&numbers, sizes()))
			sh.Do(f.Change(drill.SomeKey(&numbers, 40)), f.Change(drill.SomeKey(&numbers, 40)))
			switch round % 20 {
			case 3:
				sh.Store.Sync()
			case 7:
				sh.Store.Checkpoint()
			case 13:
				sh.Store.Sync()
				sh.Store, _ = store.Open(sh.Disk)
			}
		}
		checks(t, "the last one", sh.saves(160), 160)
	}
}

// P22.1: in frames of sizes all the way up.
func TestSaveInManySizes(t *testing.T) {
	numbers := drill.Numbers(612)
	sh := grown(t, drill.Schemas()[0], drill.Measures()[5], &numbers, 60)
	for size := 160; size <= 8192; size += 1 + size/64 {
		sh.saves(size)
	}
}

// P22.1: a frame is full to the last byte where the entries fill it so, and one byte less of room holds one entry less.
func TestSaveOfFullFrames(t *testing.T) {
	s := drill.SchemaOf("a:bytes?,b:bytes?,c:bytes?")
	full := api.Value{Kind: api.Bytes, S: strings.Repeat("z", 20)}
	sh := newShop(t, s, drill.Measures()[0], 200)
	for number := range 9 {
		key := strings.Repeat("k", 15) + string(rune('0'+number))
		sh.Do(api.Change{Kind: api.MPut, Key: key, Vals: []api.Value{full, full, full}}) // 82 bytes
	}
	for size, frames := range map[int]int{160: 9, 178: 9, 179: 5, 260: 5, 261: 3, 342: 3, 343: 3, 752: 2, 753: 1, 754: 1} {
		if b := sh.saves(size); len(b) != (2+frames)*size {
			t.Errorf("in frames of %d bytes: %d, want %d", size, len(b)/size, 2+frames)
		}
	}
}

// P22.1: schemas and keys at the edges of their bounds have room in every head and in every frame.
func TestSaveAtTheEdges(t *testing.T) {
	for _, text := range []string{
		"aaaaaaaa:bytes?,aaaaaaab:bytes?,aaaaaaac:bool?,aaaaaaad:bool?,aaaaaaae:bool?,aaaaaaaf:bool?,aaaaaaag:bool?,aaaaaaah:bool?",
		"a:int,b:int,c:int,d:int,e:int,f:int,g:bool,h:bool", "a:bool", "a:bool?", "a:bytes,b:bytes,c:bytes",
	} {
		s := drill.SchemaOf(text)
		sh := newShop(t, s, drill.Measures()[0], 300)
		records := drill.Records(s)
		for number, key := range drill.Keys() {
			sh.Do(api.Change{Kind: api.MPut, Key: key, Vals: records[number%len(records)]})
		}
		for _, size := range sizes() {
			checks(t, text, sh.saves(size), size)
		}
	}
}

// P22.1: Seq is that of the store, whatever its size.
func TestSaveOfGreatSeq(t *testing.T) {
	c := drill.Measures()[0]
	g := drill.GeometryOf(c, 40)
	for _, seq := range []uint64{1, 255, 1 << 32, 1<<64 - 1} {
		d := drill.NewDisk(g)
		if _, e := store.Create(d, g, c, drill.SchemaOf("n:int")); e != api.OK {
			t.Fatalf("Create = %d", e)
		}
		p, _ := pager.Open(d)
		was := p.Super()
		if e := p.Commit(was.Root, was.Aux, seq); e != api.OK {
			t.Fatalf("Commit = %d", e)
		}
		x, e := store.Open(d)
		if e != api.OK || x.Seq() != seq {
			t.Fatalf("Open = %d, Seq %d", e, x.Seq())
		}
		b, e := dump.Save(x, 160)
		if e != api.OK || !bytes.Equal(b, bookDump(drill.SchemaOf("n:int"), seq, nil, 160)) {
			t.Errorf("Seq %d: Save = %d bytes, %d", seq, len(b), e)
		}
		if info, e := dump.Check(b, 160); e != api.OK || info.Seq != seq {
			t.Errorf("Seq %d: Check = %v, %d", seq, info, e)
		}
	}
}

// P22.1: what is wrong with the arguments is told first; then that the power is gone.
func TestSaveOfWrongArguments(t *testing.T) {
	numbers := drill.Numbers(613)
	sh := grown(t, drill.Schemas()[1], drill.Measures()[0], &numbers, 10)
	wants := func(what string, x *store.Store, size int, want api.Errno) {
		t.Helper()
		stats := sh.Disk.Stats()
		if b, e := dump.Save(x, size); len(b) > 0 || e != want {
			t.Errorf("%s: Save(%d) = %d bytes, %d, want %d", what, size, len(b), e, want)
		}
		if sh.Disk.Stats() != stats {
			t.Errorf("%s: Save(%d) touches the disk", what, size)
		}
	}
	for _, size := range sizes() {
		wants("nil", nil, size, api.ErrArg)
	}
	for _, size := range wrongSizes() {
		wants("nil", nil, size, api.ErrArg)
		wants("an open store", sh.Store, size, api.ErrArg)
	}
	sh.saves(160)
	drill.Kill(sh.Disk)
	for _, size := range sizes() {
		wants("a dead store", sh.Store, size, api.ErrPower)
	}
	for _, size := range wrongSizes() {
		wants("a dead store", sh.Store, size, api.ErrArg)
	}
}

// P22.1: of a store that is read only, too.
func TestSaveOfAReadOnlyStore(t *testing.T) {
	s := drill.SchemaOf("n:int")
	for blocks := 4; blocks < 20; blocks++ {
		sh := newShop(t, s, drill.Measures()[0], blocks)
		for number := 0; sh.Store.Mode() == api.ModeOpen; number++ {
			sh.Try(drill.ChangeOf(s, "put "+drill.Key(1000+5*number)+" {n=7}"))
		}
		if sh.saves(160); sh.Store.Mode() != api.ModeReadOnly {
			t.Errorf("%d blocks: Mode = %d", blocks, sh.Store.Mode())
		}
	}
}

// P22.1: over a damaged page ErrDamaged with nothing else, if it must be read; that is so of every page of the tree, also where all its entries are gone by what waits above it, and where those stand behind all others.
func TestSaveOverDamage(t *testing.T) {
	numbers := drill.Numbers(614)
	met, silent := map[api.Errno]int{}, 0
	for i, c := range drill.Measures()[:5] {
		sh := grown(t, drill.Schemas()[i%2], c, &numbers, 40)
		for _, gone := range []int{0, 1, 3} {
			list := sh.Entries()
			for _, entry := range list[len(list)-gone:] {
				sh.Do(api.Change{Kind: api.MDelete, Key: entry.Key})
			}
			for block := range sh.Geometry.Blocks / 2 {
				undo := sh.Spoil(block)
				_, want := sh.Store.Scan("", "", math.MaxInt)
				met[want]++
				if want == api.OK {
					sh.saves(160)
				} else if b, e := dump.Save(sh.Store, 160); len(b) > 0 || e != want {
					t.Fatalf("%v, block %d: Save = %d bytes, %d, want %d", c, block, len(b), e, want)
				} else if given(sh.Store) == len(sh.Entries()) {
					silent++
				}
				undo()
			}
			sh.saves(160)
		}
	}
	if met[api.OK] < 100 || met[api.ErrDamaged] < 100 || len(met) != 2 || silent < 2 {
		t.Errorf("Scan answered %v; %d times All gave all entries for all that", met, silent)
	}
}

// P22.1: .. also where the keys follow so close on one another that none is between them.
func TestSaveOfCloseKeysOverDamage(t *testing.T) {
	sh := newShop(t, drill.SchemaOf("n:int"), drill.Measures()[0], 200)
	for zeros := range 16 {
		sh.Do(api.Change{Kind: api.MPut, Key: strings.Repeat("\x00", zeros+1), Vals: []api.Value{{Kind: api.Int, N: 1}}})
	}
	sh.saves(160)
	met := map[api.Errno]int{}
	for block := range sh.Geometry.Blocks {
		undo := sh.Spoil(block)
		_, want := sh.Store.Scan("", "", math.MaxInt)
		met[want]++
		if b, e := dump.Save(sh.Store, 160); e != want || len(b) > 0 && e != api.OK {
			t.Errorf("block %d: Save = %d bytes, %d, want %d", block, len(b), e, want)
		}
		undo()
	}
	if met[api.ErrDamaged] < 6 || met[api.OK] < 6 {
		t.Errorf("Scan answered %v", met)
	}
}

// given: how many entries All gives.
func given(x *store.Store) int {
	many := 0
	for range x.All("", "") {
		many++
	}
	return many
}

// P22.1, W5: of the durable bytes each bit that is turned in a block is told, or does not matter.
func TestSaveOverTurnedBits(t *testing.T) {
	numbers := drill.Numbers(615)
	sh := grown(t, drill.SchemaOf("n:int"), drill.Measures()[0], &numbers, 8)
	if e := sh.Store.Checkpoint(); e != api.OK {
		t.Fatalf("Checkpoint = %d", e)
	}
	image, from, met := sh.Disk.Image(), (2+sh.Geometry.Log)*sh.Geometry.Sector, map[api.Errno]int{}
	for bit := 8 * from; bit < 8*(from+24*sh.Geometry.Sector*sh.Geometry.Per); bit += 61 {
		image[bit/8] ^= 1 << (bit % 8)
		d, _ := disk.FromImage(image, sh.Geometry.Sector)
		if x, e := store.Open(d); e == api.OK {
			b, e := dump.Save(x, 160)
			met[e]++
			if e == api.OK && !bytes.Equal(b, sh.dump(160)) || e != api.OK && len(b) > 0 {
				t.Fatalf("bit %d: Save = %d bytes, %d", bit, len(b), e)
			}
		}
		image[bit/8] ^= 1 << (bit % 8)
	}
	if met[api.OK] < 50 || met[api.ErrDamaged] < 50 || len(met) != 2 {
		t.Errorf("Save answered %v", met)
	}
}

// R10: a store may be saved while others ask it; and what is saved while it is changed is a dump all the same.
func TestSaveAmongOthers(t *testing.T) {
	numbers := drill.Numbers(616)
	sh := grown(t, drill.Schemas()[0], drill.Measures()[1], &numbers, 30)
	want := sh.dump(200)
	var group sync.WaitGroup
	for range 4 {
		group.Go(func() {
			for range 20 {
				if b, e := dump.Save(sh.Store, 200); e != api.OK || !bytes.Equal(b, want) {
					t.Errorf("Save = %d bytes, %d", len(b), e)
				}
			}
		})
	}
	group.Wait()
	for worker := range 2 {
		group.Go(func() {
			for number := range 60 {
				key := drill.Key((number*7 + worker) % 30)
				if e := sh.Store.Upsert(key, "if here { delete } else { new }"); e != api.OK {
					t.Errorf("Upsert = %d", e)
				}
			}
		})
	}
	group.Go(func() {
		for range 60 {
			b, e := dump.Save(sh.Store, 200)
			if _, is := bookCheck(b, 200); e != api.OK || !is {
				t.Errorf("among changes: Save = %d bytes, %d", len(b), e)
			}
		}
	})
	group.Wait()
}
