package dump_test

import (
	"bytes"
	"encoding/binary"
	"strconv"
	"strings"
	"testing"

	"arbor/api"
	"arbor/disk"
	"arbor/drill"
	"arbor/dump"
	"arbor/frame"
	"arbor/pager"
)

// exampleDump: of the first example, as a store gives it.
func exampleDump(t *testing.T) []byte {
	t.Helper()
	sh := newShop(t, drill.SchemaOf("n:int"), drill.Measures()[0], 100)
	sh.doAll("put b {n=9}", "delete b", "put a {n=5}")
	return sh.saves(160)
}

func TestFirstExample(t *testing.T) {
	b := exampleDump(t)
	if len(b) != 480 {
		t.Fatalf("%d bytes", len(b))
	}
	head, entries := "\x03\x00\x00\x00\x00\x00\x00\x00n:int", "\x01\x61\x01\x0a"
	sum := binary.LittleEndian.AppendUint32(nil, frame.Sum([]byte(head+entries)))
	for number, want := range []part{{72, head}, {69, entries}, {90, "\x01\x00\x00\x00\x00\x00\x00\x00" + string(sum)}} {
		f, e := frame.Open(b[160*number : 160*number+160])
		if e != api.OK || f.Kind != want.kind || f.Gen != uint64(number) || string(f.Body) != want.body {
			t.Errorf("frame %d is %v, %d, want %v", number, f, e, want)
		}
	}
	info, e := dump.Check(b, 160)
	if e != api.OK || !sameInfo(info, api.DumpInfo{Schema: drill.SchemaOf("n:int"), Seq: 3, Entries: 1}) {
		t.Errorf("Check = %v, %d", info, e)
	}
}

func TestSecondExample(t *testing.T) {
	sh := newShop(t, drill.SchemaOf("n:int"), drill.Measures()[0], 100)
	if b := sh.saves(160); len(b) != 320 {
		t.Errorf("of a new store: %d bytes", len(b))
	}
	sh.doAll("put a {n=5}", "delete a", "upsert b n += 1")
	if b := sh.saves(160); len(b) != 320 {
		t.Errorf("of a store without records: %d bytes", len(b))
	}
}

func TestThirdExample(t *testing.T) {
	sh := newShop(t, drill.SchemaOf("n:int,tag:bytes"), drill.Measures()[0], 300)
	for number := range 17 {
		sh.doAll("put " + strconv.Itoa(1000000000+number) + ` {n=0,tag="abc"}`)
	}
	b := sh.saves(160)
	if len(b) != 5*160 {
		t.Fatalf("%d bytes", len(b))
	}
	for number, want := range []int{8 + len("n:int,tag:bytes"), 136, 136, 17, 12} {
		if f, _ := frame.Open(b[160*number : 160*number+160]); len(f.Body) != want {
			t.Errorf("frame %d has a body of %d bytes, want %d", number, len(f.Body), want)
		}
	}
}

func TestFourthExample(t *testing.T) {
	b := exampleDump(t)
	sh := newShop(t, drill.SchemaOf("n:int"), drill.Measures()[0], 100)
	for _, size := range []int{159, 8193} {
		if b, e := dump.Save(sh.Store, size); len(b) > 0 || e != api.ErrArg {
			t.Errorf("Save(%d) = %d bytes, %d", size, len(b), e)
		}
	}
	refused(t, "no bytes", nil, 160)
	refused(t, "zeros", make([]byte, 160), 160)
	refused(t, "another size", b, 320)
	refused(t, "another size, of whole frames", append(bytes.Clone(b), b[:160]...), 320)
}

func TestFifthExample(t *testing.T) {
	c := drill.Measures()[0]
	g := drill.GeometryOf(c, 100)
	d, _ := disk.New(pager.Sectors(g)-1, g.Sector)
	for _, many := range []int{0, 1, 50} {
		sh := newShop(t, drill.SchemaOf("n:int"), c, 500)
		for number := range many {
			sh.doAll("put " + strings.Repeat("k", 5) + strconv.Itoa(number) + " {n=1}")
		}
		if x, e := dump.Load(sh.saves(200), 200, d, g, c); x != nil || e != api.ErrGeometry {
			t.Errorf("Load of %d entries = %v, %d", many, x, e)
		}
	}
}
