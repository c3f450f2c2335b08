package wal

import (
	"slices"

	"arbor/api"
	"arbor/disk"
	"arbor/frame"
	"arbor/little"
)

// The bytes of the numbers in a log: that of its place, ahead of a sector's piece, and that of a record's length, ahead of the record. Both are u16.
const (
	placeBytes  = 2
	lengthBytes = 2
)

// area: where a log lies, and its epoch.
type area struct {
	disk         *disk.Disk
	first, count int
	epoch        uint64
}

// lies: can a log lie so? (A nil disk has no sectors. The sum of first and count may be beyond all ints, so it isn't asked for.)
func lies(d *disk.Disk, first, count int) bool {
	sectors, _ := d.Shape()
	return count >= 1 && count <= api.MaxLog && first >= 0 && count <= sectors-first
}

func (a area) room() int {
	_, size := a.disk.Shape()
	return frame.Room(size) - placeBytes
}

func (a area) write(k int, piece []byte) api.Errno {
	_, size := a.disk.Shape()
	body := slices.Concat(number(k), piece)
	b, e := frame.Seal(api.Frame{Kind: api.KindLog, Gen: a.epoch, Body: body}, size)
	if e != api.OK {
		return e
	}
	return a.disk.Write(a.first+k, b)
}

// read: the piece of the sector k. A sector that doesn't belong to its place, or cannot be read, gives nothing, as one with an empty piece.
func (a area) read(k int) []byte {
	b, e := a.disk.Read(a.first + k)
	if e != api.OK {
		return nil
	}
	f, e := frame.Open(b)
	if e != api.OK || f.Kind != api.KindLog || f.Gen != a.epoch || len(f.Body) < placeBytes {
		return nil
	}
	if little.Number(f.Body[:placeBytes]) != uint64(k) {
		return nil
	}
	return f.Body[placeBytes:len(f.Body):len(f.Body)]
}

// number: a place or a length as the log has it.
func number(n int) []byte {
	var b [2]byte
	little.Put(b[:], uint64(n))
	return b[:]
}
