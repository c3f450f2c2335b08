package pager

import (
	"bytes"

	"arbor/api"
	"arbor/disk"
	"arbor/frame"
	"arbor/little"
)

// none: stands where a block's number might, and no block is meant.
const none = -1

// noneOnDisk: none, as the two bytes of a block's number say it.
const noneOnDisk = 65535

// The places in a super sector's body.
const (
	atSector  = 0
	atPer     = 2
	atLog     = 3
	atBlocks  = 4
	atRoot    = 6
	atAux     = 8
	atMap     = 10
	atSeq     = 12
	superBody = 20
)

// commit: what a super sector tells. One of generation 0 is none.
type commit struct {
	geometry api.Geometry
	super    api.Super
	mapBlock int
}

// superAt: two neighbouring commits lie in two sectors, so that the one stands while the other is written.
func superAt(gen uint64) int {
	return int(gen % supers)
}

func (c commit) frame() api.Frame {
	b := make([]byte, superBody)
	little.Put(b[atSector:atPer], uint64(c.geometry.Sector))
	little.Put(b[atPer:atLog], uint64(c.geometry.Per))
	little.Put(b[atLog:atBlocks], uint64(c.geometry.Log))
	little.Put(b[atBlocks:atRoot], uint64(c.geometry.Blocks))
	little.Put(b[atRoot:atAux], uint64(c.super.Root))
	little.Put(b[atAux:atMap], uint64(c.super.Aux))
	little.Put(b[atMap:atSeq], uint64(c.mapBlock))
	little.Put(b[atSeq:], c.super.Seq)
	return api.Frame{Kind: api.KindSuper, Gen: c.super.Gen, Body: b}
}

// told: what commit.frame laid into a frame, of a body of the right length.
func told(f api.Frame) commit {
	b := f.Body
	return commit{
		geometry: api.Geometry{
			Sector: int(little.Number(b[atSector:atPer])),
			Per:    int(little.Number(b[atPer:atLog])),
			Log:    int(little.Number(b[atLog:atBlocks])),
			Blocks: int(little.Number(b[atBlocks:atRoot])),
		},
		super: api.Super{
			Gen:  f.Gen,
			Root: blockOrNone(b[atRoot:atAux]),
			Aux:  blockOrNone(b[atAux:atMap]),
			Seq:  little.Number(b[atSeq:]),
		},
		mapBlock: int(little.Number(b[atMap:atSeq])),
	}
}

func blockOrNone(b []byte) int {
	if n := little.Number(b); n != noneOnDisk {
		return int(n)
	}
	return none
}

// candidate: the commit that the bytes of a super sector tell, if they may be believed as far as they alone go.
func candidate(d *disk.Disk, at int, b []byte) commit {
	f, e := frame.Open(b)
	if e != api.OK || f.Kind != api.KindSuper || len(f.Body) != superBody {
		return commit{}
	}
	c := told(f)
	if f.Gen < 1 || f.Gen > api.MaxGen || superAt(f.Gen) != at || !hasRoom(d, c.geometry) {
		return commit{}
	}
	if max(c.mapBlock, c.super.Root, c.super.Aux) >= c.geometry.Blocks {
		return commit{}
	}
	return c
}

// lastCommit: the newer of the two super sectors. The older one must be the commit ahead of it: else one of them is damaged, and which of the two was the newer cannot be told.
func lastCommit(d *disk.Disk) (commit, api.Errno) {
	sectors, _ := d.Shape()
	var raw [supers][]byte
	var found [supers]commit
	for at := range min(supers, sectors) {
		b, e := d.Read(at)
		if e != api.OK {
			return commit{}, e
		}
		raw[at], found[at] = b, candidate(d, at, b)
	}
	newer := 0
	if found[1].super.Gen > found[0].super.Gen {
		newer = 1
	}
	older := 1 - newer
	last := found[newer].super.Gen
	if last == 0 {
		return commit{}, api.ErrNoStore
	}
	blank := bytes.Equal(raw[older], make([]byte, len(raw[older])))
	if found[older].super.Gen != last-1 || last == 1 && !blank {
		return commit{}, api.ErrDamaged
	}
	return found[newer], api.OK
}
