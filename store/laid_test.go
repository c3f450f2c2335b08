package store_test

import (
	"testing"

	"arbor/api"
	"arbor/disk"
	"arbor/frame"
)

// laid: a commit laid by hand: its super sector, and frames by their blocks. Where none stands in the map's block there is the map of the others.
type laid struct {
	g         api.Geometry
	gen       uint64
	root, aux int
	mapBlock  int
	seq       uint64
	pages     map[int]api.Frame
}

// nothing: a commit of generation 5 without a page.
func nothing() laid {
	return laid{g: exampleSize, gen: 5, root: -1, aux: -1, mapBlock: 0, seq: 41, pages: map[int]api.Frame{}}
}

// bare: a store without records, for n:int alone.
func bare() laid {
	l := nothing()
	l.root, l.aux = 2, 1
	l.pages[1] = api.Frame{Kind: 'C', Gen: 2, Body: catalogText(exampleMeasures, "n:int")}
	l.pages[2] = api.Frame{Kind: 'L', Gen: 2, Body: []byte{1, 0}}
	return l
}

// number: so many bytes of it, the lowest first.
func number(n uint64, bytes int) []byte {
	var b []byte
	for range bytes {
		b, n = append(b, byte(n)), n>>8
	}
	return b
}

func (l laid) super(gen uint64) api.Frame {
	b := append(number(uint64(l.g.Sector), 2), byte(l.g.Per), byte(l.g.Log))
	for _, n := range []int{l.g.Blocks, l.root, l.aux, l.mapBlock} {
		b = append(b, number(uint64(n), 2)...)
	}
	return api.Frame{Kind: 'S', Gen: gen, Body: append(b, number(l.seq, 8)...)}
}

func (l laid) bitmap() api.Frame {
	b := make([]byte, (l.g.Blocks+7)/8)
	b[l.mapBlock/8] |= 1 << (l.mapBlock % 8)
	for block := range l.pages {
		b[block/8] |= 1 << (block % 8)
	}
	return api.Frame{Kind: 'M', Gen: l.gen, Body: b}
}

// image: the durable bytes of a disk that has just room.
func (l laid) image(t *testing.T) []byte {
	t.Helper()
	var image []byte
	for range (2 + l.g.Log + l.g.Per*l.g.Blocks) * l.g.Sector {
		image = append(image, 0)
	}
	seal(t, image[int(l.gen%2)*l.g.Sector:], l.super(l.gen), l.g.Sector)
	if l.gen > 1 {
		seal(t, image[int((l.gen-1)%2)*l.g.Sector:], l.super(l.gen-1), l.g.Sector)
	}
	if _, stands := l.pages[l.mapBlock]; !stands {
		l.put(t, image, l.mapBlock, l.bitmap())
	}
	for block, f := range l.pages {
		l.put(t, image, block, f)
	}
	return image
}

// put: a frame into a block.
func (l laid) put(t *testing.T, image []byte, block int, f api.Frame) {
	t.Helper()
	seal(t, image[blockAt(l.g, block):], f, l.g.Sector*l.g.Per)
}

func (l laid) disk(t *testing.T) *disk.Disk {
	t.Helper()
	d, e := disk.FromImage(l.image(t), l.g.Sector)
	if e != api.OK {
		t.Fatalf("FromImage = %d", e)
	}
	return d
}

// blockAt: the place of a block's first byte.
func blockAt(g api.Geometry, block int) int {
	return (2 + g.Log + block*g.Per) * g.Sector
}

func seal(t *testing.T, into []byte, f api.Frame, size int) {
	t.Helper()
	b, e := frame.Seal(f, size)
	if e != api.OK {
		t.Fatalf("Seal of kind %c = %d", f.Kind, e)
	}
	copy(into, b)
}
