// Package disk: a stand-in disk of fixed-size sectors with a write cache: see doc/01-disk.md.
package disk

import "arbor/api"

// unarmed: the count of a disk whose power does not go by itself.
const unarmed = -1

// Disk: its sectors, the writes that wait, its power.
type Disk struct {
	sectors int
	size    int
	durable []byte
	waiting []api.Write
	last    map[int]int // by sector: the place in waiting of its last write, so that a read needs no search
	left    int         // how many more writes go well, or unarmed
	dead    bool
	stats   api.DiskStats
}

// New: a disk of so many sectors of size bytes, all zero.
func New(sectors, size int) (*Disk, api.Errno) {
	if sectors < 1 || sectors > api.MaxSectors || !sizeFits(size) {
		return nil, api.ErrArg
	}
	return over(make([]byte, sectors*size), size), api.OK
}

// FromImage: a disk whose durable bytes are image.
func FromImage(image []byte, size int) (*Disk, api.Errno) {
	if !sizeFits(size) {
		return nil, api.ErrArg
	}
	if len(image) == 0 || len(image)%size != 0 || len(image)/size > api.MaxSectors {
		return nil, api.ErrSize
	}
	return over(copied(image), size), api.OK
}

// Shape: how many sectors, and their size.
func (d *Disk) Shape() (sectors, size int) {
	if d == nil {
		return 0, 0
	}
	return d.sectors, d.size
}

// Read: a sector's bytes, as last written (durable or not).
func (d *Disk) Read(at int) ([]byte, api.Errno) {
	if e := d.ready(); e != api.OK {
		return nil, e
	}
	if !d.has(at) {
		return nil, api.ErrSector
	}
	d.stats.Reads++
	if place, waits := d.last[at]; waits {
		return copied(d.waiting[place].Bytes), api.OK
	}
	return copied(d.durable[at*d.size : (at+1)*d.size]), api.OK
}

// Write: a sector's new bytes wait in the cache.
func (d *Disk) Write(at int, b []byte) api.Errno {
	if e := d.ready(); e != api.OK {
		return e
	}
	if !d.has(at) {
		return api.ErrSector
	}
	if len(b) != d.size {
		return api.ErrSize
	}
	d.last[at] = len(d.waiting)
	d.waiting = append(d.waiting, api.Write{At: at, Bytes: copied(b)})
	if d.left == 0 {
		d.dead = true
		return api.ErrPower
	}
	if d.left != unarmed {
		d.left--
	}
	d.stats.Writes++
	return api.OK
}

// Flush: all that waits is durable.
func (d *Disk) Flush() api.Errno {
	if e := d.ready(); e != api.OK {
		return e
	}
	for _, w := range d.waiting {
		d.settle(w)
		delete(d.last, w.At)
	}
	d.waiting = nil
	d.stats.Flushes++
	return api.OK
}

// Arm: so many more writes go well; with the next one the power goes. Below 0: never.
func (d *Disk) Arm(writes int) api.Errno {
	if e := d.ready(); e != api.OK {
		return e
	}
	d.left = max(writes, unarmed)
	return api.OK
}

// Dead: is the power gone?
func (d *Disk) Dead() bool {
	return d != nil && d.dead
}

// Pending: the writes that wait, in their order.
func (d *Disk) Pending() []api.Write {
	if d == nil {
		return nil
	}
	list := make([]api.Write, len(d.waiting))
	for j, w := range d.waiting {
		list[j] = api.Write{At: w.At, Bytes: copied(w.Bytes)}
	}
	return list
}

// Survive: a new disk, with power: what is durable, and of the waiting writes those that keep names, in their order.
func (d *Disk) Survive(keep []bool) *Disk {
	if d == nil {
		return nil
	}
	survivor := over(copied(d.durable), d.size)
	for j, w := range d.waiting {
		if j < len(keep) && keep[j] {
			survivor.settle(w)
		}
	}
	return survivor
}

// Image: the durable bytes.
func (d *Disk) Image() []byte {
	if d == nil {
		return nil
	}
	return copied(d.durable)
}

// Stats: how often Read, Write, Flush went well.
func (d *Disk) Stats() api.DiskStats {
	if d == nil {
		return api.DiskStats{}
	}
	return d.stats
}

// over: a fresh disk that takes durable as its own; the caller hands it memory that nobody else holds.
func over(durable []byte, size int) *Disk {
	return &Disk{
		sectors: len(durable) / size,
		size:    size,
		durable: durable,
		last:    map[int]int{},
		left:    unarmed,
	}
}

// ready: may the disk be asked for work? Its answer comes ahead of every look at a call's arguments.
func (d *Disk) ready() api.Errno {
	if d == nil {
		return api.ErrArg
	}
	if d.dead {
		return api.ErrPower
	}
	return api.OK
}

func (d *Disk) has(at int) bool {
	return at >= 0 && at < d.sectors
}

// settle: a write's bytes become durable.
func (d *Disk) settle(w api.Write) {
	copy(d.durable[w.At*d.size:], w.Bytes)
}

func sizeFits(size int) bool {
	return size >= api.MinSize && size <= api.MaxSize
}

func copied(b []byte) []byte {
	own := make([]byte, len(b))
	copy(own, b)
	return own
}
