// Package layout: how a store lies on a disk: the super sectors, behind them the log, behind it the blocks; and what a super sector tells.
package layout

import (
	"arbor/api"
	"arbor/frame"
)

// Supers: how many super sectors there are, from sector 0 on. LogAt: the log's first sector.
const (
	Supers = 2
	LogAt  = Supers
)

// Check: may a store lie so?
func Check(g api.Geometry) api.Errno {
	if !within(g.Sector, api.MinSector, api.MaxSize) || !within(g.Per, 1, api.MaxPer) ||
		!within(g.Log, api.MinLog, api.MaxLog) || !within(g.Blocks, api.MinBlocks, api.MaxBlocks) {
		return api.ErrGeometry
	}
	if (g.Blocks+7)/8 > Room(g) || end(g) > api.MaxSectors {
		return api.ErrGeometry
	}
	return api.OK
}

// Sectors: how many sectors a store of a geometry needs; of one that may not be 0.
func Sectors(g api.Geometry) int {
	if Check(g) != api.OK {
		return 0
	}
	return end(g)
}

// HasRoom: can a store of that geometry lie on a disk of so many sectors of that size?
func HasRoom(g api.Geometry, sectors, size int) bool {
	return Check(g) == api.OK && g.Sector == size && end(g) <= sectors
}

// BlockAt: a block's first sector.
func BlockAt(g api.Geometry, block int) int {
	return LogAt + g.Log + block*g.Per
}

// PageSize: the bytes of a block.
func PageSize(g api.Geometry) int {
	return g.Sector * g.Per
}

// Room: how long a body a page has room for.
func Room(g api.Geometry) int {
	return frame.Room(PageSize(g))
}

// end: the sector behind the last block.
func end(g api.Geometry) int {
	return BlockAt(g, g.Blocks)
}

func within(n, least, most int) bool {
	return n >= least && n <= most
}
