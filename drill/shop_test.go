package drill_test

import (
	"math"
	"testing"

	"arbor/api"
	"arbor/drill"
	"arbor/store"
)

// isKept: the store has what the shop says, and is found again behind a sync.
func isKept(t *testing.T, sh *drill.Shop) {
	t.Helper()
	sh.Store.Sync()
	again, e := store.Open(sh.Disk.Survive(nil))
	if e != api.OK {
		t.Fatalf("Open = %d", e)
	}
	for _, x := range []*store.Store{sh.Store, again} {
		list, e := x.Scan("", "", math.MaxInt)
		if e != api.OK || !drill.SameEntries(list, sh.Entries()) || x.Seq() != sh.Seq || x.Config() != sh.Config || x.Geometry() != sh.Geometry {
			t.Fatalf("it has %s, %d, and Seq %d, want %s, and %d", drill.ShownEntries(sh.Schema, list), e, x.Seq(), drill.ShownEntries(sh.Schema, sh.Entries()), sh.Seq)
		}
	}
}

func TestShops(t *testing.T) {
	numbers := drill.Numbers(21)
	for i, c := range drill.Measures() {
		sh := drill.GrownShop(drill.Schemas()[i%2], c, &numbers, 20)
		isKept(t, sh)
		gone := 0
		for _, row := range sh.Rows {
			if !row.Here {
				gone++
			}
		}
		if len(sh.Rows) != 20 || gone < 1 || gone > 15 || sh.Seq != 40 {
			t.Errorf("%v: %d keys were named, %d have no record, Seq %d", c, len(sh.Rows), gone, sh.Seq)
		}
	}
}

func TestShopsThatRefuse(t *testing.T) {
	s := drill.SchemaOf("n:int")
	sh := drill.NewShop(s, drill.Measures()[0], 40)
	sh.Do(drill.ChangeOf(s, "put a {n=5}"), drill.ChangeOf(s, "upsert a n += 1"))
	if e := sh.Try(drill.ChangeOf(s, "upsert a x = 1")); e != api.ErrField || drill.ShownRow(s, sh.Rows["a"]) != "{n=6}" || sh.Seq != 1 {
		t.Errorf("Try = %d, and the row is %s", e, drill.ShownRow(s, sh.Rows["a"]))
	}
	isKept(t, sh)
	defer func() {
		if recover() == nil {
			t.Error("a call that is refused is taken for one that is accepted")
		}
	}()
	sh.Do()
}

func TestSpoiledBlocks(t *testing.T) {
	numbers := drill.Numbers(22)
	sh := drill.GrownShop(drill.Schemas()[0], drill.Measures()[0], &numbers, 20)
	met := map[api.Errno]int{}
	for block := range sh.Geometry.Blocks {
		undo := sh.Spoil(block)
		_, e := sh.Store.Scan("", "", math.MaxInt)
		met[e]++
		undo()
		isKept(t, sh)
	}
	if met[api.OK] < 10 || met[api.ErrDamaged] < 10 || len(met) != 2 {
		t.Errorf("Scan answered %v", met)
	}
}

func TestDisksAlike(t *testing.T) {
	g := drill.GeometryOf(drill.Measures()[0], 20)
	a, b := drill.NewDisk(g), drill.NewDisk(g)
	sector := make([]byte, g.Sector)
	step := func(what string, alike bool) {
		t.Helper()
		if drill.SameDisks(a, b) != alike || drill.SameDisks(b, a) != alike {
			t.Errorf("%s: alike %v, want %v", what, !alike, alike)
		}
	}
	step("new", true)
	a.Write(3, sector)
	step("one with a write that waits", false)
	b.Write(4, sector)
	step("writes of two sectors", false)
	a.Write(4, sector)
	b.Write(3, sector)
	step("the same writes in another order", false)
	a.Flush()
	b.Flush()
	step("durable", true)
	sector[0] = 1
	a.Write(3, sector)
	b.Read(3)
	b.Write(3, make([]byte, g.Sector))
	step("other bytes", false)
	drill.Kill(a)
	if !a.Dead() || b.Dead() {
		t.Error("not the one that was killed is dead")
	}
}
