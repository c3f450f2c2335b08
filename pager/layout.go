package pager

import (
	"arbor/api"
	"arbor/disk"
	"arbor/layout"
)

// Check: may a store lie so?
func Check(g api.Geometry) api.Errno {
	return layout.Check(g)
}

// Sectors: how many sectors a store of a geometry needs.
func Sectors(g api.Geometry) int {
	return layout.Sectors(g)
}

// hasRoom: can a store of that geometry lie on that disk?
func hasRoom(d *disk.Disk, g api.Geometry) bool {
	sectors, size := d.Shape()
	return layout.HasRoom(g, sectors, size)
}
