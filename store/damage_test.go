package store_test

import (
	"bytes"
	"slices"
	"testing"

	"arbor/api"
	"arbor/disk"
	"arbor/drill"
	"arbor/pager"
	"arbor/store"
)

// W5: damage is told, never believed.

// turned: some bits of a run of at most 32 are turned in so many bytes from a place on, one at least.
func turned(image []byte, from, size int, numbers *drill.Numbers) []byte {
	image = bytes.Clone(image)
	first := numbers.Below(8*size - 31)
	length := 1 + numbers.Below(32)
	for i := range length {
		if i == 0 || i == length-1 || numbers.Below(2) == 0 {
			bit := first + i
			image[from+bit/8] ^= 1 << (bit % 8)
		}
	}
	return image
}

// damaged: Open over an image; nil, if it answers ErrDamaged.
func (w *world) damaged(image []byte) *store.Store {
	w.t.Helper()
	d, e := disk.FromImage(image, w.g.Sector)
	if e != api.OK {
		w.t.Fatalf("FromImage = %d", e)
	}
	x, e := store.Open(d)
	if e == api.ErrDamaged && x == nil {
		return nil
	}
	if e != api.OK || x == nil {
		w.t.Fatalf("%v, %v: Open over damage = %v, %d", w.g, w.c, x, e)
	}
	return x
}

// scenesOfDamage: stores with a log and without, whose bytes are all durable.
func scenesOfDamage(t *testing.T, numbers *drill.Numbers) []*world {
	var list []*world
	for _, c := range drill.Measures()[:6] {
		w := grown(t, c, numbers, 12, 25)
		w.checkpoint()
		list = append(list, w)
		w = grown(t, c, numbers, 12, 25)
		w.checkpoint()
		f := drill.Fitting{Schema: w.s, Numbers: numbers}
		for range 6 {
			w.do(some(f, 30, 2)...)
		}
		w.sync()
		list = append(list, w)
	}
	return list
}

// W5: in a block: Open, and every Get and Scan of what it opened, answer as over the undamaged bytes, or ErrDamaged; of a page of the last commit's tree Audit names the block.
func TestDamagedBlocks(t *testing.T) {
	numbers := drill.Numbers(391)
	refused, met := 0, 0
	for _, w := range scenesOfDamage(t, &numbers) {
		p, _ := pager.Open(w.d.Survive(nil))
		tree, _ := drill.Spots(p, w.s, p.Super().Root)
		isNode := func(block int) bool {
			return slices.ContainsFunc(tree, func(at drill.Spot) bool { return at.Block == block })
		}
		for block := range min(w.g.Blocks, 60) {
			image := turned(w.d.Image(), blockAt(w.g, block), w.g.Sector*w.g.Per, &numbers)
			report, e := store.Audit(image, w.g.Sector)
			if e != api.OK || slices.Contains(report.Bad, block) != slices.Contains(usedBlocks(image, w.g, p), block) || isNode(block) && !slices.Contains(report.Bad, block) {
				t.Fatalf("%v, %v: damage in block %d: Audit = %v, %d", w.g, w.c, block, report, e)
			}
			x := w.damaged(image)
			if x == nil {
				refused++
				continue
			}
			if x.Seq() != w.seq() {
				t.Fatalf("%v, %v: damage in block %d: Seq = %d, want %d", w.g, w.c, block, x.Seq(), w.seq())
			}
			over := *w
			over.x = x
			met += over.answersOverDamage()
		}
	}
	if refused < 40 || met < 200 {
		t.Errorf("Open was refused %d times, %d answers met damage", refused, met)
	}
}

// usedBlocks: those of a pager's pages and of the map.
func usedBlocks(image []byte, g api.Geometry, p *pager.Pager) []int {
	last, _ := lastLaid(image, g.Sector)
	return append(drill.Pages(p), last.mapBlock)
}

// W5: behind a checkpoint damage in the map, the catalog and the root is told by Open, and over damage in any other block it answers OK.
func TestDamageBehindACheckpoint(t *testing.T) {
	numbers := drill.Numbers(392)
	for i, w := range scenesOfDamage(t, &numbers) {
		if i%2 == 1 {
			w.checkpoint()
		}
		last, _ := lastLaid(w.d.Image(), w.g.Sector)
		for block := range w.g.Blocks {
			x := w.damaged(turned(w.d.Image(), blockAt(w.g, block), w.g.Sector*w.g.Per, &numbers))
			if want := block == last.mapBlock || block == last.aux || block == last.root; (x == nil) != want {
				t.Fatalf("%v, %v: damage in block %d is told: %v, want %v", w.g, w.c, block, x == nil, want)
			}
		}
	}
}

// W5: in a super sector: Open answers ErrDamaged.
func TestDamagedSupers(t *testing.T) {
	numbers := drill.Numbers(393)
	for _, w := range scenesOfDamage(t, &numbers) {
		for i := range 80 {
			if x := w.damaged(turned(w.d.Image(), i%2*w.g.Sector, w.g.Sector, &numbers)); x != nil {
				t.Fatalf("%v, %v: damage in super sector %d is not told", w.g, w.c, i%2)
			}
		}
	}
}

// W5: in a sector of the log: Open answers OK, and the store holds what some first of its calls made, those of the last commit among them.
func TestDamagedLogs(t *testing.T) {
	numbers := drill.Numbers(394)
	fewer := 0
	for _, w := range scenesOfDamage(t, &numbers) {
		for i := range 10 * w.g.Log {
			x := w.damaged(turned(w.d.Image(), (2+i%w.g.Log)*w.g.Sector, w.g.Sector, &numbers))
			if x == nil {
				t.Fatalf("%v, %v: damage in the log's sector %d: ErrDamaged", w.g, w.c, i%w.g.Log)
			}
			if x.Seq() < super(t, w.d).Seq || x.Seq() > w.seq() {
				t.Fatalf("%v, %v: damage in the log's sector %d: Seq = %d", w.g, w.c, i%w.g.Log, x.Seq())
			}
			w.holds(x, w.past[x.Seq()])
			if x.Seq() < w.seq() {
				fewer++
			}
		}
	}
	if fewer < 50 {
		t.Errorf("in %d cases calls were lost", fewer)
	}
}
