package store_test

import (
	"bytes"
	"math"
	"strings"
	"testing"

	"arbor/api"
	"arbor/disk"
	"arbor/drill"
	"arbor/message"
	"arbor/store"
	"arbor/wal"
)

// opens: does Open of a disk answer so? With an error nothing is written.
func opens(t *testing.T, what string, d *disk.Disk, want api.Errno) *store.Store {
	t.Helper()
	was := d.Stats()
	x, e := store.Open(d)
	if e != want || (x == nil) != (e != api.OK) {
		t.Fatalf("%s: Open = %v, %d, want %d", what, x, e, want)
	}
	if is := d.Stats(); e != api.OK && (is.Writes != was.Writes || is.Flushes != was.Flushes || len(d.Pending()) > 0) {
		t.Fatalf("%s: Open is refused with %d, and writes", what, e)
	}
	return x
}

// P18.2: a nil disk, a dead one, and what pager.Open refuses.
func TestOpenOfNoStore(t *testing.T) {
	opens(t, "nil", nil, api.ErrArg)
	for _, sectors := range []int{1, 2, 530} {
		d, _ := disk.New(sectors, 64)
		opens(t, "zeros", d, api.ErrNoStore)
		d.Arm(0)
		d.Write(0, make([]byte, 64))
		if x, e := store.Open(d); x != nil || e != api.ErrPower {
			t.Errorf("Open of a dead disk = %v, %d", x, e)
		}
	}
	l := bare()
	for _, x := range []struct{ at, size int }{{0, 64}, {64, 64}, {blockAt(l.g, l.mapBlock), 256}} {
		image := l.image(t)
		image[x.at+x.size-1] ^= 1
		d, _ := disk.FromImage(image, 64)
		opens(t, "a damaged super sector or map", d, api.ErrDamaged)
	}
	small, _ := disk.FromImage(l.image(t)[:529*64], 64)
	opens(t, "a disk too small", small, api.ErrNoStore)
}

// P18.2: a disk that was formatted and no store was created on, whatever else it has.
func TestOpenOfAFormattedDisk(t *testing.T) {
	l := nothing()
	opens(t, "neither", l.disk(t), api.ErrNoStore)
	l.gen, l.seq = 1, 0
	opens(t, "of the first generation", l.disk(t), api.ErrNoStore)
	l.gen = api.MaxGen
	opens(t, "of the last generation", l.disk(t), api.ErrNoStore)
	for _, l := range []laid{bare(), bare()} {
		l.root = -1
		opens(t, "no root", l.disk(t), api.ErrNoStore)
		l.root, l.aux = 1, -1
		opens(t, "no aux", l.disk(t), api.ErrNoStore)
	}
}

func wrongCatalogs() map[string]api.Frame {
	list := map[string]api.Frame{}
	add := func(what string, body []byte) { list[what] = api.Frame{Kind: 'C', Gen: 2, Body: body} }
	for length := range 5 {
		add("only "+string(rune('0'+length))+" bytes", catalogText(exampleMeasures, "n:int")[:length])
	}
	for _, c := range wrongMeasures() {
		if c.Fanout == c.Fanout&255 && c.Leaf == c.Leaf&255 && c.Buffer == c.Buffer&65535 {
			add("measures", catalogText(c, "n:int"))
		}
	}
	for _, text := range []string{"n", "n:", "n:int,", ",n:int", "n:Int", "n:int??", "n :int", "n:int ", "n:int\x00", "if:int", "9:int", "n:int,n:int", "abcdefghi:int", "a:bytes,b:bytes,c:bytes,d:bytes", strings.Repeat("a:bool,", 8) + "b:bool", "n:int;m:int"} {
		add("the schema "+text, catalogText(exampleMeasures, text))
	}
	for _, kind := range []byte{'L', 'I', 'M', 'S', 'W', 'c', 0} {
		list["kind "+string(rune(kind))] = api.Frame{Kind: kind, Gen: 2, Body: catalogText(exampleMeasures, "n:int")}
	}
	return list
}

// P18.2: ErrDamaged of a catalog that is none.
func TestOpenOfWrongCatalogs(t *testing.T) {
	for what, f := range wrongCatalogs() {
		l := bare()
		l.pages[1] = f
		opens(t, what, l.disk(t), api.ErrDamaged)
	}
	l := bare()
	l.aux = 2
	opens(t, "the root as the catalog", l.disk(t), api.ErrDamaged)
	image := bare().image(t)
	image[blockAt(l.g, 1)+30] ^= 4
	d, _ := disk.FromImage(image, 64)
	opens(t, "a damaged catalog", d, api.ErrDamaged)
	for _, text := range []string{"n:int", "a_9:bytes?", "a:bool,b:bool,c:bool,d:bool,e:bool,f:bool,g:bool,h:bool?", "aaaaaaaa:bytes?,bbbbbbbb:bytes?,cccccccc:bytes?"} {
		for _, c := range []api.Config{exampleMeasures, {Fanout: 4, Leaf: 2, Buffer: 178}, {Fanout: 7, Leaf: 2, Buffer: 121}} {
			l := bare()
			l.pages[1] = api.Frame{Kind: 'C', Gen: 4, Body: catalogText(c, text)}
			if x := opens(t, text, l.disk(t), api.OK); x.Config() != c || x.Seq() != 41 || x.Geometry() != l.g {
				t.Errorf("%s: %v, %d, %v", text, x.Config(), x.Seq(), x.Geometry())
			}
		}
	}
}

// P18.2: ErrDamaged of a root that tree.Load does not take.
func TestOpenOfWrongRoots(t *testing.T) {
	for what, f := range map[string]api.Frame{
		"another kind":       {Kind: 'I', Gen: 5, Body: []byte{1, 0}},
		"a catalog":          {Kind: 'C', Gen: 2, Body: catalogText(exampleMeasures, "n:int")},
		"no node":            {Kind: 'L', Gen: 5, Body: []byte{1}},
		"three entries":      {Kind: 'L', Gen: 5, Body: []byte("\x01\x03\x01a\x01\x00\x01b\x01\x00\x01c\x01\x00")},
		"another schema":     {Kind: 'L', Gen: 5, Body: []byte("\x01\x01\x01a\x02\x00\x00")},
		"a later generation": {Kind: 'L', Gen: 7, Body: []byte{1, 0}},
		"five kids":          {Kind: 'I', Gen: 5, Body: []byte("\x02\x05\x05\x00\x06\x00\x07\x00\x08\x00\x09\x00\x01a\x01b\x01c\x01d\x00\x00")},
	} {
		l := bare()
		l.pages[2] = f
		opens(t, what, l.disk(t), api.ErrDamaged)
	}
	l := bare()
	l.root = 1
	opens(t, "the catalog as the root", l.disk(t), api.ErrDamaged)
	l = bare()
	l.pages[2] = api.Frame{Kind: 'L', Gen: 5, Body: []byte("\x01\x02\x01a\x01\x02\x01b\x01\x00")}
	x := opens(t, "two entries", l.disk(t), api.OK)
	if list, e := x.Scan("", "", 9); e != api.OK || len(list) != 2 || list[0].Vals[0].N != 1 {
		t.Errorf("Scan = %v, %d", list, e)
	}
}

// P18.2: a generation above MaxGen / 2 is damage.
func TestOpenOfHighGenerations(t *testing.T) {
	for gen, want := range map[uint64]api.Errno{
		2: api.OK, 1<<61 - 1: api.OK, api.MaxGen / 2: api.OK, api.MaxGen/2 + 1: api.ErrDamaged, api.MaxGen/2 + 2: api.ErrDamaged, api.MaxGen - 1: api.ErrDamaged, api.MaxGen: api.ErrDamaged,
	} {
		l := bare()
		l.gen = gen
		d := l.disk(t)
		if x := opens(t, "a generation", d, want); want == api.OK {
			if e := x.Put("k", intOf(1)); e != api.OK || super(t, d).Gen != gen+1 || super(t, d).Seq != 41 {
				t.Errorf("generation %d: Put = %d, and %v", gen, e, super(t, d))
			}
		}
	}
}

// recordText: a log record laid by hand: the number, how many messages it says, and their bytes.
func recordText(n uint64, many int, texts ...string) []byte {
	b := append(number(n, 8), byte(many))
	for _, text := range texts {
		raw, _ := message.Encode(drill.SchemaOf("n:int"), drill.MessageOf(drill.SchemaOf("n:int"), text))
		b = append(b, raw...)
	}
	return b
}

// withLog: a disk of a store with a log of an epoch laid behind it.
func (l laid) withLog(t *testing.T, epoch uint64, records ...[]byte) *disk.Disk {
	t.Helper()
	d := l.disk(t)
	log, e := wal.Start(d, 2, l.g.Log, epoch)
	if e != api.OK {
		t.Fatalf("Start = %d", e)
	}
	for _, record := range records {
		if e := log.Append(record); e != api.OK {
			t.Fatalf("Append = %d", e)
		}
	}
	d.Flush()
	return d
}

// P18.2: the log is brought back up to the first record that is not the next call's, of the schema, and whole.
func TestOpenWithALog(t *testing.T) {
	a, b, c := recordText(42, 1, "put a {n=1}"), recordText(43, 2, "put b {n=2}", "upsert a push 5; addto 0"), recordText(44, 1, "delete b")
	eight := []string{"put a {n=1}", "put b {n=1}", "put c {n=1}", "put d {n=1}", "put e {n=1}", "put f {n=1}", "put g {n=1}", "put h {n=1}"}
	wrong := func(tail string) []byte { return append(recordText(43, 1), tail...) }
	for _, x := range []struct {
		what    string
		records [][]byte
		seq     uint64
		holds   string
	}{
		{"nothing", nil, 41, ""},
		{"one", [][]byte{a}, 42, `"a"{n=1} `},
		{"two", [][]byte{a, b}, 43, `"a"{n=6} "b"{n=2} `},
		{"three", [][]byte{a, b, c}, 44, `"a"{n=6} `},
		{"a first one too late", [][]byte{b, c}, 41, ""},
		{"a first one too early", [][]byte{recordText(41, 1, "put a {n=1}"), a}, 41, ""},
		{"one left out", [][]byte{a, c}, 42, `"a"{n=1} `},
		{"one twice", [][]byte{a, a, b}, 42, `"a"{n=1} `},
		{"a number of 32 bits more", [][]byte{recordText(42+1<<32, 1, "put a {n=1}")}, 41, ""},
		{"no messages", [][]byte{a, recordText(43, 0), c}, 42, `"a"{n=1} `},
		{"no messages, and one behind", [][]byte{a, recordText(43, 0, "delete a"), c}, 42, `"a"{n=1} `},
		{"fewer messages than it says", [][]byte{a, recordText(43, 2, "delete a"), c}, 42, `"a"{n=1} `},
		{"more messages than it says", [][]byte{a, recordText(43, 1, "delete a", "delete a"), c}, 42, `"a"{n=1} `},
		{"eight messages", [][]byte{recordText(42, 8, eight...)}, 42, `"a"{n=1} "b"{n=1} "c"{n=1} "d"{n=1} "e"{n=1} "f"{n=1} "g"{n=1} "h"{n=1} `},
		{"nine messages", [][]byte{a, recordText(43, 9, append(eight, "put i {n=1}")...), c}, 42, `"a"{n=1} `},
		{"a byte behind", [][]byte{a, append(recordText(43, 1, "delete a"), 0), c}, 42, `"a"{n=1} `},
		{"half a message", [][]byte{a, wrong("\x02\x01"), c}, 42, `"a"{n=1} `},
		{"a message of no kind", [][]byte{a, wrong("\x04\x01a\x00"), c}, 42, `"a"{n=1} `},
		{"another schema's record", [][]byte{a, wrong("\x01\x01a\x02\x00\x00"), c}, 42, `"a"{n=1} `},
		{"another schema's code", [][]byte{a, wrong("\x03\x01a\x02\x16\x00"), c}, 42, `"a"{n=1} `},
		{"half a number", [][]byte{a, b[:7], c}, 42, `"a"{n=1} `},
		{"a number alone", [][]byte{a, b[:8], c}, 42, `"a"{n=1} `},
		{"a code of a first message that does nothing", [][]byte{a, recordText(43, 1, "upsert z "), c}, 44, `"a"{n=1} `},
	} {
		l := bare()
		d := l.withLog(t, l.gen, x.records...)
		w := &world{t: t, s: drill.SchemaOf("n:int"), d: d, x: opens(t, x.what, d, api.OK)}
		if w.wantScan(x.holds); w.x.Seq() != x.seq || super(t, d).Seq != x.seq || super(t, d).Gen != l.gen+1 {
			t.Errorf("%s: Seq = %d, committed is %v, want %d", x.what, w.x.Seq(), super(t, d), x.seq)
		}
		w.reopen()
		if w.wantScan(x.holds); w.x.Seq() != x.seq {
			t.Errorf("%s: opened once more: Seq = %d, want %d", x.what, w.x.Seq(), x.seq)
		}
	}
}

// P18.2: a log of another epoch means nothing, be it one ahead or one behind.
func TestOpenWithAnotherLog(t *testing.T) {
	l := bare()
	for _, epoch := range []uint64{0, l.gen - 1, l.gen + 1, math.MaxUint64} {
		d := l.withLog(t, epoch, recordText(42, 1, "put a {n=1}"))
		w := &world{t: t, s: drill.SchemaOf("n:int"), x: opens(t, "another epoch", d, api.OK)}
		if w.wantScan(""); w.x.Seq() != 41 {
			t.Errorf("epoch %d: Seq = %d", epoch, w.x.Seq())
		}
	}
}

// P18.2: numbers of calls are counted modulo 2^64.
func TestOpenWrapsRound(t *testing.T) {
	l := bare()
	l.seq = math.MaxUint64 - 1
	d := l.withLog(t, l.gen, recordText(math.MaxUint64, 1, "put a {n=1}"), recordText(0, 1, "put b {n=2}"), recordText(1, 1, "delete a"), recordText(3, 1, "delete b"))
	w := &world{t: t, s: drill.SchemaOf("n:int"), d: d, x: opens(t, "the greatest number", d, api.OK)}
	if w.wantScan(`"b"{n=2} `); w.x.Seq() != 1 {
		t.Errorf("Seq = %d", w.x.Seq())
	}
	l.seq = math.MaxUint64
	d = l.disk(t)
	w.x = opens(t, "the greatest number", d, api.OK)
	if e := w.x.Put("a", intOf(1)); e != api.OK || w.x.Seq() != 0 {
		t.Errorf("Put = %d, Seq = %d", e, w.x.Seq())
	}
	w.x = opened(t, d)
	if w.wantScan(`"a"{n=1} `); w.x.Seq() != 0 {
		t.Errorf("Seq = %d", w.x.Seq())
	}
}

// P18.2: a log that no store wrote, for whose messages the tree has no room: ErrDamaged.
func TestOpenWithALogThatHasNoRoom(t *testing.T) {
	l := bare()
	l.g.Blocks = 5
	d := l.withLog(t, l.gen, recordText(42, 1, "put a {n=1}"))
	opens(t, "a log that has room", d, api.OK)
	d = l.withLog(t, l.gen, recordText(42, 1, "put a {n=1}"), recordText(43, 1, "put b {n=1}"), recordText(44, 1, "put c {n=1}"))
	if x, e := store.Open(d); x != nil || e != api.ErrDamaged {
		t.Errorf("Open = %v, %d", x, e)
	}
	if last := super(t, d); last.Gen != l.gen || last.Seq != l.seq {
		t.Errorf("it is committed: %v", last)
	}
}

// P18.2: a page that the log's messages go to is damaged, or is none: ErrDamaged, and what waited is not believed.
func TestOpenWithALogOverDamage(t *testing.T) {
	l := bare()
	l.pages[2] = api.Frame{Kind: 'I', Gen: 5, Body: []byte("\x02\x02\x03\x00\x04\x00\x01m\x00\x00")}
	l.pages[3] = api.Frame{Kind: 'L', Gen: 5, Body: []byte("\x01\x01\x01a\x01\x02")}
	l.pages[4] = api.Frame{Kind: 'L', Gen: 5, Body: []byte("\x01\x01\x01m\x01\x02")}
	var records [][]byte
	for i := range 20 {
		records = append(records, recordText(uint64(42+i), 1, "put a"+string(rune('a'+i))+" {n=1}"))
	}
	opens(t, "a tree", l.withLog(t, l.gen, records...), api.OK)
	delete(l.pages, 3)
	opens(t, "a tree without a leaf, and no log", l.disk(t), api.OK)
	if x, e := store.Open(l.withLog(t, l.gen, records...)); x != nil || e != api.ErrDamaged {
		t.Errorf("a tree without a leaf: Open = %v, %d", x, e)
	}
	l.pages[3] = api.Frame{Kind: 'X', Gen: 5}
	if x, e := store.Open(l.withLog(t, l.gen, records...)); x != nil || e != api.ErrDamaged {
		t.Errorf("a tree with a leaf that is none: Open = %v, %d", x, e)
	}
}

// W5: behind a checkpoint Open reads of the blocks just the map, the catalog and the root, and of the log a sector: damage elsewhere it does not see. Then it commits.
func TestWhatOpenReads(t *testing.T) {
	numbers := drill.Numbers(341)
	for _, c := range drill.Measures() {
		w := grown(t, c, &numbers, 3, 30)
		w.checkpoint()
		image, last := w.d.Image(), super(t, w.d)
		for block := range w.g.Blocks {
			at := blockAt(w.g, block)
			if kind := image[at]; kind != 'M' && block != last.Root && block != last.Aux {
				copy(image[at:], bytes.Repeat([]byte{7}, w.g.Sector*w.g.Per))
			}
		}
		d, _ := disk.FromImage(image, w.g.Sector)
		x := opened(t, d)
		if is := d.Stats(); is.Reads != 3+3*w.g.Per || is.Writes != w.g.Per+1 || is.Flushes != 2 {
			t.Errorf("%v: Open: %v", c, is)
		}
		if x.Seq() != w.seq() || super(t, d).Gen != last.Gen+1 || super(t, d).Seq != last.Seq {
			t.Errorf("%v: Seq = %d, committed is %v", c, x.Seq(), super(t, d))
		}
	}
}
