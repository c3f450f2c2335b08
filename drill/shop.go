package drill

import (
	"bytes"
	"slices"

	"arbor/api"
	"arbor/disk"
	"arbor/pager"
	"arbor/store"
)

// Shop: a store on a disk of its own, and what the calls made that it accepted.
type Shop struct {
	Schema   api.Schema
	Config   api.Config
	Geometry api.Geometry
	Disk     *disk.Disk
	Store    *store.Store
	Rows     map[string]api.Row // of the keys that were named
	Seq      uint64
}

// NewDisk: with just the sectors of a geometry.
func NewDisk(g api.Geometry) *disk.Disk {
	d, e := disk.New(pager.Sectors(g), g.Sector)
	must(e, "geometry", "of a disk")
	return d
}

// NewShop: an empty store with so many blocks.
func NewShop(s api.Schema, c api.Config, blocks int) *Shop {
	g := GeometryOf(c, blocks)
	sh := &Shop{Schema: s, Config: c, Geometry: g, Disk: NewDisk(g), Rows: map[string]api.Row{}}
	x, e := store.Create(sh.Disk, g, c, s)
	must(e, "store", "of these measures")
	sh.Store = x
	return sh
}

// GrownShop: a store in which so many keys were named, some of them more than once, some of them without a record now.
func GrownShop(s api.Schema, c api.Config, numbers *Numbers, keys int) *Shop {
	sh := NewShop(s, c, 8*keys+40)
	f := Fitting{Schema: s, Numbers: numbers}
	for number := range keys {
		sh.Do(api.Change{Kind: api.MPut, Key: Key(number * 37 % keys), Vals: f.Record()})
		sh.Do(f.Change(SomeKey(numbers, keys)), f.Change(SomeKey(numbers, keys)))
	}
	return sh
}

// Do: a call that is accepted.
func (sh *Shop) Do(cs ...api.Change) {
	must(sh.Try(cs...), "call that is accepted", ShownChanges(sh.Schema, cs))
}

// Try: a call, whether it is accepted or not.
func (sh *Shop) Try(cs ...api.Change) api.Errno {
	e := sh.Store.Apply(cs...)
	if e == api.OK {
		sh.Rows = PlayChanges(sh.Schema, sh.Rows, cs...)
		sh.Seq++
	}
	return e
}

// Entries: what is to be in the store.
func (sh *Shop) Entries() []api.Entry {
	return EntriesOf(sh.Rows, "", "")
}

// Filled: a new store on a disk into which entries were put, a call each; or the first error.
func Filled(d *disk.Disk, g api.Geometry, c api.Config, s api.Schema, list []api.Entry) (*store.Store, api.Errno) {
	x, e := store.Create(d, g, c, s)
	if e != api.OK {
		return nil, e
	}
	for _, entry := range list {
		if e := x.Put(entry.Key, entry.Vals...); e != api.OK {
			return nil, e
		}
	}
	return x, api.OK
}

// Spoil: the bytes of a block are others, until undone. Of a store that is changed meanwhile this is no use.
func (sh *Shop) Spoil(block int) (undo func()) {
	from := 2 + sh.Geometry.Log + block*sh.Geometry.Per
	old := make([][]byte, sh.Geometry.Per)
	for k := range old {
		old[k], _ = sh.Disk.Read(from + k)
		sh.Disk.Write(from+k, bytes.Repeat([]byte{7}, sh.Geometry.Sector))
	}
	return func() {
		for k, b := range old {
			sh.Disk.Write(from+k, b)
		}
	}
}

// Kill: the power of a disk goes.
func Kill(d *disk.Disk) {
	_, size := d.Shape()
	d.Arm(0)
	d.Write(0, make([]byte, size))
}

// SameDisks: hold two disks the same, and were they asked as often?
func SameDisks(a, b *disk.Disk) bool {
	return bytes.Equal(a.Image(), b.Image()) && SameWrites(a.Pending(), b.Pending()) && a.Stats() == b.Stats() && a.Dead() == b.Dead()
}

// SameWrites: are two lists of writes that wait alike?
func SameWrites(a, b []api.Write) bool {
	return slices.EqualFunc(a, b, func(a, b api.Write) bool { return a.At == b.At && bytes.Equal(a.Bytes, b.Bytes) })
}
