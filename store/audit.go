package store

import (
	"slices"
	"sync"

	"arbor/api"
	"arbor/disk"
	"arbor/frame"
	"arbor/layout"
	"arbor/node"
	"arbor/nodepage"
	"arbor/space"
)

// lookers: how many goroutines look at the blocks of a level.
const lookers = 4

// anyLevel: nothing above the root says of which level it is.
const anyLevel = 0

// audit: a look at a commit. While goroutines look at blocks, nothing of it is written.
type audit struct {
	image  []byte
	commit layout.Commit
	schema api.Schema
	config api.Config
	open   [api.MaxBlocks]bool // which blocks a place may still have
	report api.Report
}

// place: where a node is to be: a block, its level, and its range: the keys from lo on and below hi ("": to the end).
type place struct {
	block, level int
	lo, hi       string
}

// finding: what the block of the place of that number holds, and whether that is sound there.
type finding struct {
	number int
	node   api.Node
	sound  bool
}

// Audit: what hangs together in a disk's durable bytes, and what is damaged.
func Audit(image []byte, size int) (api.Report, api.Errno) {
	if _, e := disk.FromImage(image, size); e != api.OK {
		return api.Report{}, e
	}
	last := newest(image, size)
	if last.Super.Gen == 0 || last.Super.Root == layout.None || last.Super.Aux == layout.None {
		return api.Report{}, api.ErrNoStore
	}
	a := audit{image: image, commit: last}
	a.lookAtMap()
	if a.lookAtCatalog() {
		a.lookAtTree()
	}
	slices.Sort(a.report.Bad)
	a.report.Bad = slices.Compact(a.report.Bad)
	return a.report, api.OK
}

// newest: the last commit that a super sector tells, whatever the other one holds.
func newest(image []byte, size int) layout.Commit {
	var last layout.Commit
	sectors := len(image) / size
	for at := range min(layout.Supers, sectors) {
		if c := layout.Candidate(image[at*size:(at+1)*size], at, sectors); c.Super.Gen > last.Super.Gen {
			last = c
		}
	}
	return last
}

// lookAtMap: which blocks a place may have: those of the map, or, if that is bad, any.
func (a *audit) lookAtMap() {
	f, e := a.frame(a.commit.MapBlock)
	book, refused := space.Load(a.commit.Geometry.Blocks, f.Body)
	if e == api.OK && f.Kind == api.KindMap && f.Gen == a.commit.Super.Gen && refused == api.OK {
		for _, block := range book.Used() {
			a.open[block] = true
		}
	} else {
		for block := range a.commit.Geometry.Blocks {
			a.open[block] = true
		}
		a.bad(a.commit.MapBlock)
	}
	a.open[a.commit.MapBlock], a.open[a.commit.Super.Aux] = false, false
}

// lookAtCatalog: without it nothing can be said of a node.
func (a *audit) lookAtCatalog() bool {
	f, e := a.frame(a.commit.Super.Aux)
	is := false
	a.config, a.schema, is = catalogIn(f, layout.Room(a.commit.Geometry))
	if e != api.OK || !is || a.commit.Super.Aux == a.commit.MapBlock {
		a.bad(a.commit.Super.Aux)
		return false
	}
	return true
}

// lookAtTree: level by level, as each names the places of the next.
func (a *audit) lookAtTree() {
	places := []place{{block: a.commit.Super.Root, level: anyLevel}}
	for len(places) > 0 {
		places = a.admitted(places)
		var next []place
		for _, found := range a.lookAtAll(places) {
			at := places[found.number]
			if !found.sound {
				a.bad(at.block)
				continue
			}
			a.count(found.node)
			next = append(next, at.kids(found.node)...)
		}
		places = next
	}
}

// admitted: those of some places whose blocks may be theirs; from now on they are no other place's.
func (a *audit) admitted(places []place) []place {
	var list []place
	for _, p := range places {
		if !a.open[p.block] {
			a.bad(p.block)
			continue
		}
		a.open[p.block] = false
		list = append(list, p)
	}
	return list
}

// lookAtAll: what some places hold, in their order.
func (a *audit) lookAtAll(places []place) []finding {
	numbers := make(chan int)
	findings := make(chan finding, len(places))
	var all sync.WaitGroup
	for range lookers {
		all.Add(1)
		go func() {
			defer all.Done()
			for number := range numbers {
				n, sound := a.lookAt(places[number])
				findings <- finding{number, n, sound}
			}
		}()
	}
	for number := range places {
		numbers <- number
	}
	close(numbers)
	all.Wait()
	close(findings)
	list := make([]finding, len(places))
	for found := range findings {
		list[found.number] = found
	}
	return list
}

// lookAt: the node that a place holds, if it is sound there.
func (a *audit) lookAt(p place) (api.Node, bool) {
	f, e := a.frame(p.block)
	if e != api.OK || f.Gen > a.commit.Super.Gen {
		return api.Node{}, false
	}
	n, is := nodepage.Of(a.schema, f)
	if !is || node.Check(a.schema, a.config, n) != api.OK || p.level != anyLevel && p.level != n.Level {
		return api.Node{}, false
	}
	return n, p.hasAll(n)
}

// frame: what a block holds.
func (a *audit) frame(block int) (api.Frame, api.Errno) {
	from := layout.BlockAt(a.commit.Geometry, block) * a.commit.Geometry.Sector
	return frame.Open(a.image[from : from+layout.PageSize(a.commit.Geometry)])
}

func (a *audit) count(n api.Node) {
	if n.Level == 1 {
		a.report.Leaves++
	} else {
		a.report.Inner++
	}
	a.report.Entries += len(n.Entries)
	a.report.Waiting += len(n.Msgs)
}

// bad: a block is no sound part of what hangs together.
func (a *audit) bad(block int) {
	a.report.Bad = append(a.report.Bad, block)
}

// hasAll: are the keys of all that a node holds in the place's range?
func (p place) hasAll(n api.Node) bool {
	for _, entry := range n.Entries {
		if !p.has(entry.Key) {
			return false
		}
	}
	for _, m := range n.Msgs {
		if !p.has(m.Key) {
			return false
		}
	}
	return true
}

func (p place) has(key string) bool {
	return key >= p.lo && (p.hi == "" || key < p.hi)
}

// kids: the places that the place's node names. (A pivot is never empty, so that an empty end is none.)
func (p place) kids(n api.Node) []place {
	var list []place
	for i, block := range n.Kids {
		kid := place{block: block, level: n.Level - 1, lo: p.lo, hi: p.hi}
		if i > 0 {
			kid.lo = max(p.lo, n.Pivots[i-1])
		}
		if i < len(n.Pivots) && (p.hi == "" || n.Pivots[i] < p.hi) {
			kid.hi = n.Pivots[i]
		}
		list = append(list, kid)
	}
	return list
}
