package dump_test

import (
	"bytes"
	"slices"
	"testing"

	"arbor/api"
	"arbor/drill"
	"arbor/dump"
)

// shop: a store that is saved.
type shop struct {
	*drill.Shop
	t *testing.T
}

func newShop(t *testing.T, s api.Schema, c api.Config, blocks int) *shop {
	return &shop{drill.NewShop(s, c, blocks), t}
}

func grown(t *testing.T, s api.Schema, c api.Config, numbers *drill.Numbers, keys int) *shop {
	return &shop{drill.GrownShop(s, c, numbers, keys), t}
}

func (sh *shop) doAll(texts ...string) {
	sh.t.Helper()
	for _, text := range texts {
		sh.Do(drill.ChangeOf(sh.Schema, text))
	}
}

// dump: what the book says that Save gives.
func (sh *shop) dump(size int) []byte {
	return bookDump(sh.Schema, sh.Seq, sh.Entries(), size)
}

// saves: Save gives the dump of the map, and does nothing to the disk but read it.
func (sh *shop) saves(size int) []byte {
	sh.t.Helper()
	image, pending, stats, mode := sh.Disk.Image(), sh.Disk.Pending(), sh.Disk.Stats(), sh.Store.Mode()
	b, e := dump.Save(sh.Store, size)
	if e != api.OK || !bytes.Equal(b, sh.dump(size)) {
		sh.t.Fatalf("%v: Save(%d) = %d bytes, %d, want %d", sh.Config, size, len(b), e, len(sh.dump(size)))
	}
	now := sh.Disk.Stats()
	if now.Writes != stats.Writes || now.Flushes != stats.Flushes || !bytes.Equal(sh.Disk.Image(), image) || !drill.SameWrites(sh.Disk.Pending(), pending) || sh.Store.Seq() != sh.Seq || sh.Store.Mode() != mode {
		sh.t.Fatalf("%v: Save(%d) changes the store or its disk", sh.Config, size)
	}
	return b
}

// listOf: what an iterator gives, up to so many entries.
func listOf(b []byte, size, most int) []api.Entry {
	var list []api.Entry
	for key, vals := range dump.Entries(b, size) {
		list = append(list, api.Entry{Key: key, Vals: vals})
		if len(list) == most {
			break
		}
	}
	return list
}

// entriesOf: keys without a blank, each with its record.
func entriesOf(s api.Schema, texts ...string) []api.Entry {
	var list []api.Entry
	for _, text := range texts {
		c := drill.ChangeOf(s, "put "+text)
		list = append(list, api.Entry{Key: c.Key, Vals: c.Vals})
	}
	return list
}

func sameInfo(a, b api.DumpInfo) bool {
	return slices.Equal(a.Schema.Fields, b.Schema.Fields) && a.Seq == b.Seq && a.Entries == b.Entries
}

// checks: Check and Entries tell of bytes what the book does: are they a dump?
func checks(t *testing.T, what string, b []byte, size int) bool {
	t.Helper()
	want, is := bookCheck(b, size)
	errno := api.OK
	if !is {
		errno = api.ErrDump
	}
	info, e := dump.Check(b, size)
	if e != errno || !sameInfo(info, want.info) {
		t.Fatalf("%s: Check(%d bytes, %d) = %v, %d, want %v, %d", what, len(b), size, info, e, want.info, errno)
	}
	if list := listOf(b, size, -1); !drill.SameEntries(list, want.list) {
		t.Fatalf("%s: Entries(%d bytes, %d) gives %s, want %s", what, len(b), size, drill.ShownEntries(want.info.Schema, list), drill.ShownEntries(want.info.Schema, want.list))
	}
	return is
}

// refused: bytes that are no dump: Check tells it, Entries gives nothing, Load does nothing to the disk.
func refused(t *testing.T, what string, b []byte, size int) {
	t.Helper()
	if checks(t, what, b, size) {
		t.Fatalf("%s: the book takes it for a dump", what)
	}
	c := drill.Measures()[0]
	g := drill.GeometryOf(c, 24)
	d := drill.NewDisk(g)
	if x, e := dump.Load(b, size, d, g, c); x != nil || e != api.ErrDump {
		t.Fatalf("%s: Load = %v, %d", what, x, e)
	}
	if d.Stats() != (api.DiskStats{}) || len(d.Pending()) > 0 {
		t.Fatalf("%s: Load of it touches the disk", what)
	}
}
