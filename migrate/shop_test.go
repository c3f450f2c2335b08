package migrate_test

import (
	"bytes"
	"math"
	"testing"

	"arbor/api"
	"arbor/disk"
	"arbor/drill"
	"arbor/store"
)

// shop: a store that is carried over.
type shop struct {
	*drill.Shop
	t *testing.T
}

func newShop(t *testing.T, s api.Schema, c api.Config, blocks int) *shop {
	return &shop{drill.NewShop(s, c, blocks), t}
}

func grown(t *testing.T, s api.Schema, c api.Config, numbers *drill.Numbers, keys int) *shop {
	return &shop{drill.GrownShop(s, c, numbers, keys), t}
}

// edited: what the book says that edits make of the entries.
func (sh *shop) edited(es []api.Edit) []api.Entry {
	list := sh.Entries()
	for i := range list {
		list[i].Vals = bookRecord(sh.Schema, list[i].Vals, es)
	}
	return list
}

// sight: what can be seen of a store, but for how often its disk was read.
type sight struct {
	image   []byte
	waiting []api.Write
	stats   api.DiskStats
	seq     uint64
	mode    int
}

func (sh *shop) look() sight {
	l := sight{sh.Disk.Image(), sh.Disk.Pending(), sh.Disk.Stats(), sh.Store.Seq(), sh.Store.Mode()}
	l.stats.Reads = 0
	return l
}

// isAs: is the store as it was?
func (sh *shop) isAs(was sight) {
	sh.t.Helper()
	now := sh.look()
	if !bytes.Equal(now.image, was.image) || !drill.SameWrites(now.waiting, was.waiting) || now.stats != was.stats || now.seq != was.seq || now.mode != was.mode {
		sh.t.Fatalf("%v: the store that was carried over is changed", sh.Config)
	}
}

// holds: has a store just these entries?
func holds(t *testing.T, what string, x *store.Store, list []api.Entry) {
	t.Helper()
	got, e := x.Scan("", "", math.MaxInt)
	if e != api.OK || !drill.SameEntries(got, list) {
		t.Fatalf("%s: Scan = %s, %d, want %s", what, drill.ShownEntries(x.Schema(), got), e, drill.ShownEntries(x.Schema(), list))
	}
}

// byHand: what P23.7 says that Store does to a disk, call by call.
func byHand(d *disk.Disk, g api.Geometry, c api.Config, target api.Schema, list []api.Entry) api.Errno {
	x, e := drill.Filled(d, g, c, target, list)
	if e != api.OK {
		return e
	}
	return x.Sync()
}
