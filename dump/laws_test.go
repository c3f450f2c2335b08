package dump_test

import (
	"bytes"
	"slices"
	"strconv"
	"testing"

	"arbor/api"
	"arbor/drill"
	"arbor/dump"
)

// butForSeq: the bytes of a dump without Seq, the head's sum and the tail's two sums.
func butForSeq(b []byte, size int) []byte {
	rest := bytes.Clone(b)
	tail := len(b) - size
	for _, ends := range [][2]int{{11, 19}, {size - 4, size}, {tail + 19, tail + 23}, {len(b) - 4, len(b)}} {
		clear(rest[ends[0]:ends[1]])
	}
	return rest
}

// P22.5, W8: a store is saved and loaded again and again, from each geometry and configuration to the next: it holds the same map, and saved again it gives the same bytes but for Seq and the sums that hang on it; from the second time on, the same.
func TestSavedAndLoadedAgain(t *testing.T) {
	numbers := drill.Numbers(651)
	for i, c := range drill.Measures() {
		sh := grown(t, drill.Schemas()[i%2], c, &numbers, 30)
		size, list := drill.Pick(&numbers, sizes()), sh.Entries()
		first := sh.saves(size)
		b := first
		for number, to := range drill.Measures() {
			x := loads(t, b, size, sh.Schema, list, drill.GeometryOf(to, 8*len(list)+16+numbers.Below(50)), to)
			again, e := dump.Save(x, size)
			if e != api.OK || !bytes.Equal(butForSeq(again, size), butForSeq(first, size)) {
				t.Fatalf("%v to %v: saved again, %d bytes, %d, are others than %d", c, to, len(again), e, len(first))
			}
			if info, e := dump.Check(again, size); e != api.OK || info.Seq != uint64(len(list)) || info.Entries != len(list) {
				t.Fatalf("%v to %v: Check = %v, %d", c, to, info, e)
			}
			if number > 0 && !bytes.Equal(again, b) {
				t.Fatalf("%v to %v: the same Seq, and other bytes", c, to)
			}
			b = again
		}
		if bytes.Equal(b, first) {
			t.Errorf("%v: Seq %d is not seen in the bytes", c, sh.Seq)
		}
	}
}

// P22.5: saved in another size, it tells the same.
func TestSavedInAnotherSize(t *testing.T) {
	numbers := drill.Numbers(652)
	sh := grown(t, drill.Schemas()[0], drill.Measures()[2], &numbers, 30)
	for _, from := range sizes() {
		for _, to := range sizes() {
			x := loads(t, sh.saves(from), from, sh.Schema, sh.Entries(), drill.GeometryOf(sh.Config, 300), sh.Config)
			b, e := dump.Save(x, to)
			if e != api.OK || !drill.SameEntries(listOf(b, to, -1), sh.Entries()) {
				t.Fatalf("from %d to %d: Save = %d bytes, %d", from, to, len(b), e)
			}
		}
	}
}

// P22.6, W8: wherever bits of one run of 32 are turned, over the seam of two frames too.
func TestTurnedBitsAreTold(t *testing.T) {
	numbers := drill.Numbers(653)
	for _, b := range [][]byte{laid(three(), 160), bookDump(drill.SchemaOf("n:int"), 0, nil, 160)} {
		for bit := range 8 * len(b) {
			for _, run := range numbers.Runs() {
				c := drill.Turned(b, bit, run)
				if info, e := dump.Check(c, 160); e != api.ErrDump || !sameInfo(info, api.DumpInfo{}) {
					t.Fatalf("%#x turned from bit %d on: Check = %v, %d", run, bit, info, e)
				}
				if bit%37 == 0 {
					refused(t, strconv.Itoa(bit), c, 160)
				}
			}
		}
	}
}

// P22.6, W8: what is cut off at its end, a whole frame or all of it too, and what is put behind it.
func TestCutAndLongerDumpsAreTold(t *testing.T) {
	numbers := drill.Numbers(654)
	for _, size := range []int{160, 200} {
		_, b := some(&numbers, drill.Schemas()[0], 20, size)
		for end := range len(b) {
			refused(t, "cut at "+strconv.Itoa(end), b[:end], size)
		}
		for more := 1; more <= 2*size; more++ {
			refused(t, "with zeros behind it", append(bytes.Clone(b), make([]byte, more)...), size)
			refused(t, "with its own bytes behind it", append(bytes.Clone(b), b[:more]...), size)
			refused(t, "with its last bytes behind it", append(bytes.Clone(b), b[len(b)-more:]...), size)
		}
		refused(t, "twice", slices.Concat(b, b), size)
	}
}

// No dump's bytes begin another one's of the same size.
func TestNoDumpBeginsAnother(t *testing.T) {
	numbers := drill.Numbers(655)
	var list [][]byte
	for keys := range 30 {
		_, b := some(&numbers, drill.Schemas()[keys%2], keys, 160)
		list = append(list, b)
	}
	s := drill.SchemaOf("n:int")
	for _, entries := range [][]api.Entry{nil, entriesOf(s, "a {n=1}"), entriesOf(s, "a {n=1}", "b {n=2}")} {
		list = append(list, bookDump(s, 1, entries, 160))
	}
	for i, a := range list {
		for j, b := range list {
			if i != j && bytes.HasPrefix(a, b) {
				t.Errorf("dump %d begins dump %d", j, i)
			}
		}
	}
}
