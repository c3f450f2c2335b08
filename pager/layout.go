package pager

import (
	"arbor/api"
	"arbor/disk"
	"arbor/frame"
)

// How a store lies on its disk: the super sectors, behind them the log, behind it the blocks.
const (
	supers = 2
	logAt  = supers
)

// Check: may a store lie so?
func Check(g api.Geometry) api.Errno {
	if !within(g.Sector, api.MinSector, api.MaxSize) || !within(g.Per, 1, api.MaxPer) ||
		!within(g.Log, api.MinLog, api.MaxLog) || !within(g.Blocks, api.MinBlocks, api.MaxBlocks) {
		return api.ErrGeometry
	}
	if (g.Blocks+7)/8 > frame.Room(pageSize(g)) || blockAt(g, g.Blocks) > api.MaxSectors {
		return api.ErrGeometry
	}
	return api.OK
}

// Sectors: how many sectors a store of a geometry needs.
func Sectors(g api.Geometry) int {
	if Check(g) != api.OK {
		return 0
	}
	return blockAt(g, g.Blocks)
}

// hasRoom: can a store of that geometry lie on that disk?
func hasRoom(d *disk.Disk, g api.Geometry) bool {
	sectors, size := d.Shape()
	return Check(g) == api.OK && g.Sector == size && Sectors(g) <= sectors
}

// blockAt: a block's first sector; of the number behind the last block's it is where the store ends.
func blockAt(g api.Geometry, block int) int {
	return logAt + g.Log + block*g.Per
}

func pageSize(g api.Geometry) int {
	return g.Sector * g.Per
}

func within(n, least, most int) bool {
	return n >= least && n <= most
}
