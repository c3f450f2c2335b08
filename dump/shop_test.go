package dump_test

import (
	"bytes"
	"slices"
	"testing"

	"arbor/api"
	"arbor/disk"
	"arbor/drill"
	"arbor/dump"
	"arbor/pager"
	"arbor/store"
)

// shop: a store on a disk, and the abstract map of its calls.
type shop struct {
	t    *testing.T
	s    api.Schema
	c    api.Config
	g    api.Geometry
	d    *disk.Disk
	x    *store.Store
	rows map[string]api.Row
	seq  uint64
}

func newDisk(t *testing.T, g api.Geometry) *disk.Disk {
	t.Helper()
	d, e := disk.New(pager.Sectors(g), g.Sector)
	if e != api.OK {
		t.Fatalf("a disk for %v: %d", g, e)
	}
	return d
}

func newShop(t *testing.T, s api.Schema, c api.Config, blocks int) *shop {
	t.Helper()
	g := drill.GeometryOf(c, blocks)
	sh := &shop{t: t, s: s, c: c, g: g, d: newDisk(t, g), rows: map[string]api.Row{}}
	x, e := store.Create(sh.d, g, c, s)
	if e != api.OK {
		t.Fatalf("Create(%v, %v) = %d", g, c, e)
	}
	sh.x = x
	return sh
}

// grown: a store in which so many keys were named, some of them more than once, some of them without a record now.
func grown(t *testing.T, s api.Schema, c api.Config, numbers *drill.Numbers, keys int) *shop {
	t.Helper()
	sh := newShop(t, s, c, 8*keys+40)
	f := drill.Fitting{Schema: s, Numbers: numbers}
	for number := range keys {
		sh.do(api.Change{Kind: api.MPut, Key: drill.Key(number * 37 % keys), Vals: f.Record()})
		sh.do(f.Change(drill.SomeKey(numbers, keys)), f.Change(drill.SomeKey(numbers, keys)))
	}
	return sh
}

// do: a call that is accepted.
func (sh *shop) do(cs ...api.Change) {
	sh.t.Helper()
	if e := sh.x.Apply(cs...); e != api.OK {
		sh.t.Fatalf("Apply(%s) = %d", drill.ShownChanges(sh.s, cs), e)
	}
	sh.rows = drill.PlayChanges(sh.s, sh.rows, cs...)
	sh.seq++
}

func (sh *shop) doAll(texts ...string) {
	sh.t.Helper()
	for _, text := range texts {
		sh.do(drill.ChangeOf(sh.s, text))
	}
}

func (sh *shop) entries() []api.Entry {
	return drill.EntriesOf(sh.rows, "", "")
}

// dump: what the book says that Save gives.
func (sh *shop) dump(size int) []byte {
	return bookDump(sh.s, sh.seq, sh.entries(), size)
}

// saves: Save gives the dump of the map, and does nothing to the disk but read it.
func (sh *shop) saves(size int) []byte {
	sh.t.Helper()
	image, pending, stats, mode := sh.d.Image(), sh.d.Pending(), sh.d.Stats(), sh.x.Mode()
	b, e := dump.Save(sh.x, size)
	if e != api.OK || !bytes.Equal(b, sh.dump(size)) {
		sh.t.Fatalf("%v: Save(%d) = %d bytes, %d, want %d", sh.c, size, len(b), e, len(sh.dump(size)))
	}
	now := sh.d.Stats()
	if now.Writes != stats.Writes || now.Flushes != stats.Flushes || !bytes.Equal(sh.d.Image(), image) || !slices.EqualFunc(sh.d.Pending(), pending, sameWrite) || sh.x.Seq() != sh.seq || sh.x.Mode() != mode {
		sh.t.Fatalf("%v: Save(%d) changes the store or its disk", sh.c, size)
	}
	return b
}

func sameWrite(a, b api.Write) bool {
	return a.At == b.At && bytes.Equal(a.Bytes, b.Bytes)
}

// spoil: the bytes of a block are others, until undone.
func (sh *shop) spoil(block int) func() {
	from := 2 + sh.g.Log + block*sh.g.Per
	old := make([][]byte, sh.g.Per)
	for k := range old {
		old[k], _ = sh.d.Read(from + k)
		sh.d.Write(from+k, bytes.Repeat([]byte{7}, sh.g.Sector))
	}
	return func() {
		for k, b := range old {
			sh.d.Write(from+k, b)
		}
	}
}

// kill: the power goes.
func kill(d *disk.Disk) {
	_, size := d.Shape()
	d.Arm(0)
	d.Write(0, make([]byte, size))
}

// listOf: what an iterator gives, up to so many entries.
func listOf(b []byte, size, most int) []api.Entry {
	var list []api.Entry
	for key, vals := range dump.Entries(b, size) {
		list = append(list, api.Entry{Key: key, Vals: vals})
		if len(list) == most {
			break
		}
	}
	return list
}

// entriesOf: keys without a blank, each with its record.
func entriesOf(s api.Schema, texts ...string) []api.Entry {
	var list []api.Entry
	for _, text := range texts {
		c := drill.ChangeOf(s, "put "+text)
		list = append(list, api.Entry{Key: c.Key, Vals: c.Vals})
	}
	return list
}

func sameInfo(a, b api.DumpInfo) bool {
	return slices.Equal(a.Schema.Fields, b.Schema.Fields) && a.Seq == b.Seq && a.Entries == b.Entries
}

// checks: Check and Entries tell of bytes what the book does: are they a dump?
func checks(t *testing.T, what string, b []byte, size int) bool {
	t.Helper()
	want, is := bookCheck(b, size)
	errno := api.OK
	if !is {
		errno = api.ErrDump
	}
	info, e := dump.Check(b, size)
	if e != errno || !sameInfo(info, want.info) {
		t.Fatalf("%s: Check(%d bytes, %d) = %v, %d, want %v, %d", what, len(b), size, info, e, want.info, errno)
	}
	if list := listOf(b, size, -1); !drill.SameEntries(list, want.list) {
		t.Fatalf("%s: Entries(%d bytes, %d) gives %s, want %s", what, len(b), size, drill.ShownEntries(want.info.Schema, list), drill.ShownEntries(want.info.Schema, want.list))
	}
	return is
}

// refused: bytes that are no dump: Check tells it, Entries gives nothing, Load does nothing to the disk.
func refused(t *testing.T, what string, b []byte, size int) {
	t.Helper()
	if checks(t, what, b, size) {
		t.Fatalf("%s: the book takes it for a dump", what)
	}
	c := drill.Measures()[0]
	g := drill.GeometryOf(c, 24)
	d := newDisk(t, g)
	if x, e := dump.Load(b, size, d, g, c); x != nil || e != api.ErrDump {
		t.Fatalf("%s: Load = %v, %d", what, x, e)
	}
	if d.Stats() != (api.DiskStats{}) || len(d.Pending()) > 0 {
		t.Fatalf("%s: Load of it touches the disk", what)
	}
}
