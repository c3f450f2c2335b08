package layout

import (
	"arbor/api"
	"arbor/frame"
	"arbor/little"
)

// None: stands where a block's number might, and no block is meant.
const None = -1

// noneOnDisk: None, as the two bytes of a block's number say it.
const noneOnDisk = 65535

// The places in a super sector's body.
const (
	atSector  = 0
	atPer     = 2
	atLog     = 3
	atBlocks  = 4
	atRoot    = 6
	atAux     = 8
	atMap     = 10
	atSeq     = 12
	superBody = 20
)

// Commit: what a super sector tells. One of generation 0 is none.
type Commit struct {
	Geometry api.Geometry
	Super    api.Super
	MapBlock int
}

// SuperAt: two neighbouring commits lie in two sectors, so that the one stands while the other is written.
func SuperAt(gen uint64) int {
	return int(gen % Supers)
}

// Frame: what is written into its super sector.
func (c Commit) Frame() api.Frame {
	b := make([]byte, superBody)
	little.Put(b[atSector:atPer], uint64(c.Geometry.Sector))
	little.Put(b[atPer:atLog], uint64(c.Geometry.Per))
	little.Put(b[atLog:atBlocks], uint64(c.Geometry.Log))
	little.Put(b[atBlocks:atRoot], uint64(c.Geometry.Blocks))
	little.Put(b[atRoot:atAux], uint64(c.Super.Root))
	little.Put(b[atAux:atMap], uint64(c.Super.Aux))
	little.Put(b[atMap:atSeq], uint64(c.MapBlock))
	little.Put(b[atSeq:], c.Super.Seq)
	return api.Frame{Kind: api.KindSuper, Gen: c.Super.Gen, Body: b}
}

// Candidate: the commit that the bytes of the super sector at tell, on a disk of so many sectors of as many bytes, if they may be believed as far as they alone go.
func Candidate(b []byte, at, sectors int) Commit {
	f, e := frame.Open(b)
	if e != api.OK || f.Kind != api.KindSuper || len(f.Body) != superBody {
		return Commit{}
	}
	c := told(f)
	if f.Gen < 1 || f.Gen > api.MaxGen || SuperAt(f.Gen) != at || !HasRoom(c.Geometry, sectors, len(b)) {
		return Commit{}
	}
	if max(c.MapBlock, c.Super.Root, c.Super.Aux) >= c.Geometry.Blocks {
		return Commit{}
	}
	return c
}

// told: what Commit.Frame laid into a frame, of a body of the right length.
func told(f api.Frame) Commit {
	b := f.Body
	return Commit{
		Geometry: api.Geometry{
			Sector: int(little.Number(b[atSector:atPer])),
			Per:    int(little.Number(b[atPer:atLog])),
			Log:    int(little.Number(b[atLog:atBlocks])),
			Blocks: int(little.Number(b[atBlocks:atRoot])),
		},
		Super: api.Super{
			Gen:  f.Gen,
			Root: blockOrNone(b[atRoot:atAux]),
			Aux:  blockOrNone(b[atAux:atMap]),
			Seq:  little.Number(b[atSeq:]),
		},
		MapBlock: int(little.Number(b[atMap:atSeq])),
	}
}

func blockOrNone(b []byte) int {
	if n := little.Number(b); n != noneOnDisk {
		return int(n)
	}
	return None
}
