package store_test

import (
	"bytes"
	"maps"
	"slices"
	"strings"
	"testing"

	"arbor/api"
	"arbor/disk"
	"arbor/drill"
	"arbor/frame"
	"arbor/node"
	"arbor/pager"
	"arbor/store"
	"arbor/value"
)

// P18.16 once more: one place behind the other, each with its range as a question.

type placeAt struct {
	block, level int // level 0: any
	in           func(key string) bool
}

// look: an image, and what was told of it so far.
type look struct {
	image  []byte
	l      laid // of its pages nothing is known
	bits   []byte
	s      api.Schema
	c      api.Config
	met    map[int]int
	bad    map[int]int
	report api.Report
}

// lastLaid: the super sector that counts, if there is one.
func lastLaid(image []byte, size int) (laid, bool) {
	var last laid
	for at := range min(2, len(image)/size) {
		f, e := frame.Open(image[at*size : (at+1)*size])
		if e != api.OK || f.Kind != 'S' || len(f.Body) != 20 || f.Gen == 0 || f.Gen > api.MaxGen || f.Gen%2 != uint64(at) {
			continue
		}
		two := func(from int) int { return int(f.Body[from]) + 256*int(f.Body[from+1]) }
		l := laid{g: api.Geometry{Sector: two(0), Per: int(f.Body[2]), Log: int(f.Body[3]), Blocks: two(4)}, gen: f.Gen, root: two(6), aux: two(8), mapBlock: two(10)}
		if pager.Check(l.g) != api.OK || l.g.Sector != size || pager.Sectors(l.g)*size > len(image) || l.mapBlock >= l.g.Blocks {
			continue
		}
		if (l.root < l.g.Blocks || l.root == 65535) && (l.aux < l.g.Blocks || l.aux == 65535) && l.gen > last.gen {
			last = l
		}
	}
	return last, last.gen > 0 && last.root != 65535 && last.aux != 65535
}

func audited(image []byte, size int) (api.Report, api.Errno) {
	l, is := lastLaid(image, size)
	if !is {
		return api.Report{}, api.ErrNoStore
	}
	k := &look{image: image, l: l, met: map[int]int{}, bad: map[int]int{}}
	k.atMap()
	if k.atCatalog() {
		k.atPlaces()
	} else {
		k.bad[l.aux]++
	}
	k.report.Bad = slices.Sorted(maps.Keys(k.bad))
	return k.report, api.OK
}

func (k *look) frame(block int) (api.Frame, bool) {
	from := blockAt(k.l.g, block)
	f, e := frame.Open(k.image[from : from+k.l.g.Sector*k.l.g.Per])
	return f, e == api.OK
}

func (k *look) atMap() {
	f, is := k.frame(k.l.mapBlock)
	is = is && f.Kind == 'M' && f.Gen == k.l.gen && len(f.Body) == (k.l.g.Blocks+7)/8
	for block := k.l.g.Blocks; is && block < 8*len(f.Body); block++ {
		is = f.Body[block/8]>>(block%8)&1 == 0
	}
	if is {
		k.bits = f.Body
	} else {
		k.bad[k.l.mapBlock]++
	}
}

func (k *look) atCatalog() bool {
	f, is := k.frame(k.l.aux)
	if !is || f.Kind != 'C' || len(f.Body) < 4 || k.l.aux == k.l.mapBlock {
		return false
	}
	text := string(f.Body[4:])
	s, e := value.ParseSchema(text)
	again, _ := value.PrintSchema(s)
	k.s, k.c = s, api.Config{Fanout: int(f.Body[0]), Leaf: int(f.Body[1]), Buffer: int(f.Body[2]) + 256*int(f.Body[3])}
	return e == api.OK && again == text && node.Fits(k.c, k.l.g.Sector*k.l.g.Per-15) == api.OK
}

func (k *look) atPlaces() {
	list := []placeAt{{k.l.root, 0, func(string) bool { return true }}}
	for ; len(list) > 0; list = list[1:] {
		p := list[0]
		n, is := k.sound(p)
		k.met[p.block]++
		if !is {
			k.bad[p.block]++
			continue
		}
		k.report.Entries += len(n.Entries)
		k.report.Waiting += len(n.Msgs)
		if n.Level == 1 {
			k.report.Leaves++
		} else {
			k.report.Inner++
		}
		for i, block := range n.Kids {
			list = append(list, placeAt{block, n.Level - 1, func(key string) bool {
				return p.in(key) && (i == 0 || key >= n.Pivots[i-1]) && (i == len(n.Pivots) || key < n.Pivots[i])
			}})
		}
	}
}

func (k *look) sound(p placeAt) (api.Node, bool) {
	if p.block < 0 || p.block >= k.l.g.Blocks || p.block == k.l.mapBlock || p.block == k.l.aux || k.met[p.block] > 0 {
		return api.Node{}, false
	}
	f, is := k.frame(p.block)
	if !is || k.bits != nil && k.bits[p.block/8]>>(p.block%8)&1 == 0 || f.Gen > k.l.gen {
		return api.Node{}, false
	}
	n, e := node.Decode(k.s, f.Body)
	if e != api.OK || f.Kind == 'L' && n.Level != 1 || f.Kind == 'I' && n.Level < 2 || f.Kind != 'L' && f.Kind != 'I' {
		return api.Node{}, false
	}
	is = node.Check(k.s, k.c, n) == api.OK && (p.level == 0 || p.level == n.Level)
	for _, entry := range n.Entries {
		is = is && p.in(entry.Key)
	}
	for _, m := range n.Msgs {
		is = is && p.in(m.Key)
	}
	return n, is
}

func sameReport(a, b api.Report) bool {
	return slices.Equal(a.Bad, b.Bad) && a.Inner == b.Inner && a.Leaves == b.Leaves && a.Entries == b.Entries && a.Waiting == b.Waiting
}

// audits: Audit of an image answers what is told of it here, and does not touch it.
func audits(t *testing.T, what string, image []byte, size int) api.Report {
	t.Helper()
	given := drill.Roomy(image, 77)
	got, e := store.Audit(given, size)
	want, e2 := audited(image, size)
	if e != e2 || !sameReport(got, want) {
		t.Fatalf("%s: Audit = %v, %d, want %v, %d", what, got, e, want, e2)
	}
	if !drill.AsItWas(given, image, 77) {
		t.Fatalf("%s: Audit changes the image", what)
	}
	return got
}

// P18.16: the errors.
func TestAuditOfNoStore(t *testing.T) {
	image := bare().image(t)
	for _, x := range []struct {
		image []byte
		size  int
		want  api.Errno
	}{
		{nil, 31, api.ErrArg}, {image, 31, api.ErrArg}, {image, 1025, api.ErrArg}, {image, -1, api.ErrArg}, {nil, 64, api.ErrSize}, {image[1:], 64, api.ErrSize}, {make([]byte, 16385*64), 64, api.ErrSize},
		{make([]byte, 64), 64, api.ErrNoStore}, {make([]byte, 640), 64, api.ErrNoStore}, {image[:64], 64, api.ErrNoStore}, {image[:128], 64, api.ErrNoStore}, {image[:len(image)-64], 64, api.ErrNoStore},
		{image, 128, api.ErrNoStore}, {nothing().image(t), 64, api.ErrNoStore}, {slices.Concat(make([]byte, 128), image[128:]), 64, api.ErrNoStore},
		{image, 64, api.OK}, {slices.Concat(image, make([]byte, 640)), 64, api.OK},
	} {
		report, e := store.Audit(x.image, x.size)
		if e != x.want || e != api.OK && !sameReport(report, api.Report{}) || e == api.OK && !sameReport(report, api.Report{Leaves: 1}) {
			t.Errorf("Audit of %d bytes, %d = %v, %d, want %d", len(x.image), x.size, report, e, x.want)
		}
	}
	for _, l := range []laid{bare(), bare()} {
		l.root = -1
		if _, e := store.Audit(l.image(t), 64); e != api.ErrNoStore {
			t.Errorf("Audit without a root = %d", e)
		}
		l.root, l.aux = 2, -1
		if _, e := store.Audit(l.image(t), 64); e != api.ErrNoStore {
			t.Errorf("Audit without an aux = %d", e)
		}
	}
}

// three: a store of three levels: the root in 2 over 3 and 4, which are over 5, 6 and 7, 8.
func three() laid {
	l := bare()
	for block, body := range map[int]string{
		2: "\x03\x02\x03\x00\x04\x00\x01m\x01\x00\x02\x01a\x00", 3: "\x02\x02\x05\x00\x06\x00\x01d\x00\x00", 4: "\x02\x02\x07\x00\x08\x00\x01s\x02\x00\x02\x01m\x00\x02\x01z\x00",
		5: "\x01\x01\x01a\x01\x00", 6: "\x01\x02\x01d\x01\x00\x01l\x01\x00", 7: "\x01\x01\x01p\x01\x00", 8: "\x01\x01\x01s\x01\x00",
	} {
		kind := byte('I')
		if body[0] == 1 {
			kind = 'L'
		}
		l.pages[block] = api.Frame{Kind: kind, Gen: 5, Body: []byte(body)}
	}
	return l
}

// with: another body in a block.
func (l laid) with(block int, kind byte, gen uint64, body string) laid {
	l.pages = maps.Clone(l.pages)
	l.pages[block] = api.Frame{Kind: kind, Gen: gen, Body: []byte(body)}
	return l
}

// P18.16: each reason for which a place is bad, alone; what hangs below it does not count.
func TestBadPlaces(t *testing.T) {
	whole := api.Report{Inner: 3, Leaves: 4, Entries: 5, Waiting: 3}
	less := func(inner, leaves, entries, waiting int, bad ...int) api.Report {
		return api.Report{Inner: whole.Inner - inner, Leaves: whole.Leaves - leaves, Entries: whole.Entries - entries, Waiting: whole.Waiting - waiting, Bad: bad}
	}
	l := three()
	for what, x := range map[string]struct {
		l    laid
		want api.Report
	}{
		"whole":                            {l, whole},
		"a leaf of a later generation":     {l.with(5, 'L', 6, "\x01\x01\x01a\x01\x00"), less(0, 1, 1, 0, 5)},
		"a leaf of the first generation":   {l.with(5, 'L', 1, "\x01\x01\x01a\x01\x00"), whole},
		"a leaf's page of another kind":    {l.with(5, 'I', 5, "\x01\x01\x01a\x01\x00"), less(0, 1, 1, 0, 5)},
		"a leaf that is none":              {l.with(5, 'L', 5, "\x01\x02\x01a\x01\x00"), less(0, 1, 1, 0, 5)},
		"a leaf of too much":               {l.with(5, 'L', 5, "\x01\x03\x01a\x01\x00\x01b\x01\x00\x01c\x01\x00"), less(0, 1, 1, 0, 5)},
		"a leaf of nothing":                {l.with(5, 'L', 5, "\x01\x00"), less(0, 0, 1, 0)},
		"a key at the upper end":           {l.with(5, 'L', 5, "\x01\x01\x01d\x01\x00"), less(0, 1, 1, 0, 5)},
		"a key at the lower end":           {l.with(6, 'L', 5, "\x01\x01\x01d\x01\x00"), less(0, 0, 1, 0)},
		"a key below the lower end":        {l.with(6, 'L', 5, "\x01\x02\x01c\x01\x00\x01d\x01\x00"), less(0, 1, 2, 0, 6)},
		"a key at the end further up":      {l.with(6, 'L', 5, "\x01\x02\x01d\x01\x00\x01m\x01\x00"), less(0, 1, 2, 0, 6)},
		"a key below the beginning of all": {l.with(7, 'L', 5, "\x01\x01\x01l\x01\x00"), less(0, 1, 1, 0, 7)},
		"a message out of the range":       {l.with(3, 'I', 5, "\x02\x02\x05\x00\x06\x00\x01d\x01\x00\x02\x01m\x00"), less(1, 2, 3, 0, 3)},
		"a message at the beginning":       {l.with(4, 'I', 5, "\x02\x02\x07\x00\x08\x00\x01s\x01\x00\x02\x01m\x00"), less(0, 0, 0, 1)},
		"a pivot out of the range":         {l.with(3, 'I', 5, "\x02\x02\x05\x00\x06\x00\x01x\x00\x00"), less(0, 1, 2, 0, 6)},
		"a pivot ahead of the range":       {l.with(4, 'I', 5, "\x02\x02\x07\x00\x08\x00\x01b\x00\x00"), less(0, 1, 1, 2, 7)},
		"a key behind the range's end":     {l.with(3, 'I', 5, "\x02\x02\x05\x00\x06\x00\x01x\x00\x00").with(5, 'L', 5, "\x01\x01\x01p\x01\x00"), less(0, 2, 3, 0, 5, 6)},
		"a key ahead of the range's begin": {l.with(4, 'I', 5, "\x02\x02\x07\x00\x08\x00\x01b\x00\x00").with(8, 'L', 5, "\x01\x01\x01c\x01\x00"), less(0, 2, 2, 2, 7, 8)},
		"an inner node of another level":   {l.with(3, 'I', 5, "\x03\x02\x05\x00\x06\x00\x01d\x00\x00"), less(1, 2, 3, 0, 3)},
		"a leaf where an inner node is":    {l.with(3, 'L', 5, "\x01\x01\x01a\x01\x00"), less(1, 2, 3, 0, 3)},
		"an inner node where a leaf is":    {l.with(5, 'I', 5, "\x02\x02\x0b\x00\x0c\x00\x01b\x00\x00"), less(0, 1, 1, 0, 5)},
		"a higher root":                    {l.with(2, 'I', 5, "\x04\x02\x03\x00\x04\x00\x01m\x01\x00\x02\x01a\x00"), less(2, 4, 5, 2, 3, 4)},
		"a kid that is no block":           {l.with(3, 'I', 5, "\x02\x02\x05\x00\x80\x00\x01d\x00\x00"), less(0, 1, 2, 0, 128)},
		"a kid of the highest number":      {l.with(3, 'I', 5, "\x02\x02\x05\x00\xff\x07\x01d\x00\x00"), less(0, 1, 2, 0, 2047)},
		"a kid that is the map":            {l.with(3, 'I', 5, "\x02\x02\x05\x00\x00\x00\x01d\x00\x00"), less(0, 1, 2, 0, 0)},
		"a kid that is the catalog":        {l.with(3, 'I', 5, "\x02\x02\x05\x00\x01\x00\x01d\x00\x00"), less(0, 1, 2, 0, 1)},
		"a kid that is the root":           {l.with(3, 'I', 5, "\x02\x02\x05\x00\x02\x00\x01d\x00\x00"), less(0, 1, 2, 0, 2)},
		"a kid of two":                     {l.with(4, 'I', 5, "\x02\x02\x05\x00\x08\x00\x01s\x00\x00"), less(0, 1, 1, 2, 5)},
		"a kid of two, bad at first":       {l.with(3, 'I', 5, "\x02\x02\x07\x00\x06\x00\x01d\x00\x00"), less(0, 2, 2, 0, 7)},
		"a leaf that is the one above":     {l.with(2, 'I', 5, "\x03\x02\x03\x00\x05\x00\x01m\x00\x00"), less(1, 3, 3, 3, 5)},
		"a root that is none":              {l.with(2, 'I', 5, "\x03\x01\x03\x00\x00\x00"), api.Report{Bad: []int{2}}},
		"a root of a later generation":     {l.with(2, 'L', 6, "\x01\x00"), api.Report{Bad: []int{2}}},
		"a root of a leaf":                 {l.with(2, 'L', 5, "\x01\x00"), api.Report{Leaves: 1}},
		"another record's schema":          {l.with(8, 'L', 5, "\x01\x01\x01s\x02\x00\x00"), less(0, 1, 1, 0, 8)},
	} {
		if got := audits(t, what, x.l.image(t), 64); !sameReport(got, x.want) {
			t.Errorf("%s: %v, want %v", what, got, x.want)
		}
	}
}

// P18.16: a map that is bad is told, and its bits do not count; one that is sound does.
func TestBadMaps(t *testing.T) {
	whole := api.Report{Inner: 3, Leaves: 4, Entries: 5, Waiting: 3}
	bits := three().bitmap().Body
	of := func(spoil func(b []byte) []byte) string { return string(spoil(bytes.Clone(bits))) }
	for what, x := range map[string]struct {
		kind byte
		gen  uint64
		body string
		want api.Report
	}{
		"right":                    {'M', 5, string(bits), whole},
		"more in use":              {'M', 5, of(func(b []byte) []byte { b[9] = 255; return b }), whole},
		"the map itself not":       {'M', 5, of(func(b []byte) []byte { b[0] &^= 1; return b }), whole},
		"the catalog not":          {'M', 5, of(func(b []byte) []byte { b[0] &^= 2; return b }), whole},
		"a leaf not":               {'M', 5, of(func(b []byte) []byte { b[0] &^= 64; return b }), api.Report{Inner: 3, Leaves: 3, Entries: 3, Waiting: 3, Bad: []int{6}}},
		"the root not":             {'M', 5, of(func(b []byte) []byte { b[0] &^= 4; return b }), api.Report{Bad: []int{2}}},
		"another kind":             {'m', 5, of(func(b []byte) []byte { b[0] &^= 64; return b }), api.Report{Inner: 3, Leaves: 4, Entries: 5, Waiting: 3, Bad: []int{0}}},
		"an earlier generation":    {'M', 4, of(func(b []byte) []byte { b[0] &^= 64; return b }), api.Report{Inner: 3, Leaves: 4, Entries: 5, Waiting: 3, Bad: []int{0}}},
		"a later generation":       {'M', 6, string(bits), api.Report{Inner: 3, Leaves: 4, Entries: 5, Waiting: 3, Bad: []int{0}}},
		"too few bytes":            {'M', 5, string(bits[:15]), api.Report{Inner: 3, Leaves: 4, Entries: 5, Waiting: 3, Bad: []int{0}}},
		"too many bytes":           {'M', 5, string(bits) + "\x00", api.Report{Inner: 3, Leaves: 4, Entries: 5, Waiting: 3, Bad: []int{0}}},
		"no bytes":                 {'M', 5, "", api.Report{Inner: 3, Leaves: 4, Entries: 5, Waiting: 3, Bad: []int{0}}},
		"a leaf where the map was": {'L', 5, "\x01\x00", api.Report{Inner: 3, Leaves: 4, Entries: 5, Waiting: 3, Bad: []int{0}}},
	} {
		if got := audits(t, what, three().with(0, x.kind, x.gen, x.body).image(t), 64); !sameReport(got, x.want) {
			t.Errorf("%s: %v, want %v", what, got, x.want)
		}
	}
	l := three()
	l.g.Blocks = 125
	l = l.with(0, 'M', 5, of(func(b []byte) []byte { b[15] = 32; return b }))
	if got := audits(t, "a bit of no block", l.image(t), 64); !slices.Equal(got.Bad, []int{0}) {
		t.Errorf("a bit of no block: %v", got)
	}
}

// P18.16: a catalog that is bad is told, and nothing is said of the tree.
func TestBadCatalogs(t *testing.T) {
	for what, f := range wrongCatalogs() {
		l := three()
		l.pages[1] = f
		if got := audits(t, what, l.image(t), 64); !sameReport(got, api.Report{Bad: []int{1}}) {
			t.Errorf("%s: %v", what, got)
		}
		l.pages[0] = api.Frame{Kind: 'm'}
		if got := audits(t, what, l.image(t), 64); !sameReport(got, api.Report{Bad: []int{0, 1}}) {
			t.Errorf("%s, and the map is bad: %v", what, got)
		}
	}
	l := three()
	l.aux = 0
	if got := audits(t, "the map as the catalog", l.image(t), 64); !sameReport(got, api.Report{Bad: []int{0}}) {
		t.Errorf("the map as the catalog: %v", got)
	}
	l = l.with(0, 'C', 5, string(catalogText(exampleMeasures, "n:int")))
	if got := audits(t, "a catalog where the map is", l.image(t), 64); !sameReport(got, api.Report{Bad: []int{0}}) {
		t.Errorf("a catalog where the map is: %v", got)
	}
	l = three().with(1, 'C', 99, string(catalogText(exampleMeasures, "n:int")))
	if got := audits(t, "a catalog of a later generation", l.image(t), 64); len(got.Bad) > 0 || got.Leaves != 4 {
		t.Errorf("a catalog of a later generation: %v", got)
	}
}

// P18.16: what the other super sector holds does not matter, also where Open tells damage; of two candidates the later one counts.
func TestOtherSupers(t *testing.T) {
	l := three()
	whole := api.Report{Inner: 3, Leaves: 4, Entries: 5, Waiting: 3}
	for what, spoil := range map[string]func(image []byte){
		"zeros":     func(image []byte) { copy(image[:64], make([]byte, 64)) },
		"damage":    func(image []byte) { image[9] ^= 2 },
		"a gap":     func(image []byte) { seal(t, image, l.super(2), 64) },
		"wrong one": func(image []byte) { seal(t, image, l.super(7), 64) },
	} {
		image := l.image(t)
		spoil(image)
		d, _ := disk.FromImage(image, 64)
		opens(t, what, d, api.ErrDamaged)
		if got := audits(t, what, image, 64); !sameReport(got, whole) {
			t.Errorf("%s: %v", what, got)
		}
	}
	image := l.image(t)
	later := bare()
	later.root = 5
	seal(t, image, later.super(6), 64)
	if got := audits(t, "a later one", image, 64); !sameReport(got, api.Report{Leaves: 1, Entries: 1, Bad: []int{0}}) {
		t.Errorf("a later one: %v", got)
	}
}

// P18.16: images of stores into which somebody laid other frames.
func TestForgedImages(t *testing.T) {
	numbers := drill.Numbers(371)
	bad, sound := 0, 0
	for _, c := range drill.Measures()[:4] {
		w := grown(t, c, &numbers, 4, 25)
		w.checkpoint()
		for range 700 {
			image := w.d.Image()
			for range 1 + numbers.Below(3) {
				w.forge(image, &numbers)
			}
			if len(audits(t, "a forged image", image, w.g.Sector).Bad) > 0 {
				bad++
			} else {
				sound++
			}
		}
	}
	if bad < 500 || sound < 100 {
		t.Errorf("%d of the images are bad, %d are not", bad, sound)
	}
}

// forge: a block, or a super sector, holds another frame whose sum is right.
func (w *world) forge(image []byte, numbers *drill.Numbers) {
	l, is := lastLaid(image, w.g.Sector)
	if !is {
		return
	}
	size := w.g.Sector * w.g.Per
	block := numbers.Below(w.g.Blocks)
	if numbers.Below(8) > 0 {
		block = numbers.Below(40)
	}
	at := blockAt(w.g, block)
	f, e := frame.Open(image[at : at+size])
	switch n := numbers.Below(10); {
	case n == 0:
		copy(image[blockAt(w.g, numbers.Below(40)):], image[at:at+size])
	case n == 1:
		image[at+numbers.Below(size)] ^= 1 << numbers.Below(8)
	case n == 2:
		fields := []*int{&l.root, &l.aux, &l.mapBlock}
		*drill.Pick(numbers, fields) = numbers.Below(40)
		seal(w.t, image[int(l.gen%2)*w.g.Sector:], l.super(l.gen), w.g.Sector)
	case e == api.OK:
		w.forgeFrame(&f, numbers)
		seal(w.t, image[at:], f, size)
	}
}

func (w *world) forgeFrame(f *api.Frame, numbers *drill.Numbers) {
	if n, e := node.Decode(w.s, f.Body); e == api.OK && numbers.Below(5) > 0 {
		w.forgeNode(&n, numbers)
		if body, e := node.Encode(w.s, n); e == api.OK && len(body) <= frame.Room(w.g.Sector*w.g.Per) {
			f.Body = body
		}
		return
	}
	switch numbers.Below(3) {
	case 0:
		f.Gen += uint64(numbers.Below(5)) - 2
	case 1:
		f.Kind = drill.Pick(numbers, []byte("LIMCSW"))
	default:
		if len(f.Body) > 0 {
			f.Body[numbers.Below(len(f.Body))] ^= 1 << numbers.Below(8)
		}
	}
}

// forgeNode: one part of it is another.
func (w *world) forgeNode(n *api.Node, numbers *drill.Numbers) {
	key := drill.SomeKey(numbers, 25)
	switch {
	case n.Level == 1:
		if len(n.Entries) > 0 && numbers.Below(2) == 0 {
			n.Entries = n.Entries[1:]
		} else if len(n.Entries) > 0 {
			n.Entries[numbers.Below(len(n.Entries))].Key = key
		}
		slices.SortFunc(n.Entries, func(a, b api.Entry) int { return strings.Compare(a.Key, b.Key) })
	case numbers.Below(4) == 0:
		n.Level += numbers.Below(3) - 1
	case numbers.Below(3) == 0:
		n.Kids[numbers.Below(len(n.Kids))] = numbers.Below(w.g.Blocks + 3)
	case numbers.Below(2) == 0:
		n.Pivots[numbers.Below(len(n.Pivots))] = key
		slices.Sort(n.Pivots)
	default:
		n.Msgs = append(n.Msgs, api.Message{Kind: api.MDelete, Key: key})
		slices.SortStableFunc(n.Msgs, func(a, b api.Message) int { return strings.Compare(a.Key, b.Key) })
	}
}

// P18.17: of a store that nobody else wrote to no block is bad, whenever the image is taken; and where no message waits the entries are the map's.
func TestAuditOfStores(t *testing.T) {
	numbers := drill.Numbers(372)
	still := 0
	for _, c := range drill.Measures() {
		for _, blocks := range []int{12, 300} {
			s := &story{world: found(t, geometryOf(c, 4, blocks), c, drill.Pick(&numbers, drill.Schemas()))}
			f := drill.Fitting{Schema: s.s, Numbers: &numbers}
			for i := range 60 {
				if i%15 == 7 {
					s.d.Arm(numbers.Below(20 * s.g.Per))
				}
				alive := s.act(f, 30)
				still += s.audited(s.d.Image())
				still += s.audited(s.d.Survive(numbers.Keep(len(s.d.Pending()))).Image())
				if !alive {
					s = s.survived(s.d.Survive(numbers.Keep(len(s.d.Pending()))))
				}
			}
		}
	}
	if still < 100 {
		t.Errorf("in %d images no message waits", still)
	}
}

// audited: is nothing bad? And does no message wait?
func (s *story) audited(image []byte) int {
	s.t.Helper()
	report := audits(s.t, "a store's image", image, s.g.Sector)
	if len(report.Bad) > 0 || report.Leaves == 0 {
		s.t.Fatalf("%v, %v: %v", s.g, s.c, report)
	}
	if report.Waiting > 0 {
		return 0
	}
	d, _ := disk.FromImage(image, s.g.Sector)
	p, e := pager.Open(d)
	if e != api.OK {
		s.t.Fatalf("pager.Open = %d", e)
	}
	past := s.past
	if s.maybe != nil {
		past = append(past[:len(past):len(past)], s.maybe)
	}
	if rows := past[p.Super().Seq]; report.Entries != len(drill.EntriesOf(rows, "", "")) {
		s.t.Fatalf("%v, %v: %v, of %d records", s.g, s.c, report, len(drill.EntriesOf(rows, "", "")))
	}
	return 1
}

// R6: an audit says the same each time, however its goroutines run.
func TestAuditIsTheSameEachTime(t *testing.T) {
	numbers := drill.Numbers(373)
	w := grown(t, exampleMeasures, &numbers, 4, 200)
	w.checkpoint()
	image := w.d.Image()
	for range 40 {
		w.forge(image, &numbers)
	}
	want, _ := audited(image, w.g.Sector)
	for range 50 {
		if got, e := store.Audit(image, w.g.Sector); e != api.OK || !sameReport(got, want) {
			t.Fatalf("Audit = %v, %d, want %v", got, e, want)
		}
	}
}
