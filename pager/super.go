package pager

import (
	"bytes"

	"arbor/api"
	"arbor/disk"
	"arbor/layout"
)

// lastCommit: the newer of the two super sectors. The older one must be the commit ahead of it: else one of them is damaged, and which of the two was the newer cannot be told.
func lastCommit(d *disk.Disk) (layout.Commit, api.Errno) {
	sectors, _ := d.Shape()
	var raw [layout.Supers][]byte
	var found [layout.Supers]layout.Commit
	for at := range min(layout.Supers, sectors) {
		b, e := d.Read(at)
		if e != api.OK {
			return layout.Commit{}, e
		}
		raw[at], found[at] = b, layout.Candidate(b, at, sectors)
	}
	newer := 0
	if found[1].Super.Gen > found[0].Super.Gen {
		newer = 1
	}
	older := 1 - newer
	last := found[newer].Super.Gen
	if last == 0 {
		return layout.Commit{}, api.ErrNoStore
	}
	blank := bytes.Equal(raw[older], make([]byte, len(raw[older])))
	if found[older].Super.Gen != last-1 || last == 1 && !blank {
		return layout.Commit{}, api.ErrDamaged
	}
	return found[newer], api.OK
}
