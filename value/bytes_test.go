package value_test

import (
	"bytes"
	"slices"
	"strings"
	"testing"

	"arbor/api"
	"arbor/drill"
	"arbor/value"
)

// shapes: schemas whose records are few enough to be tried, of every type and with every head.
var shapes = []string{"i", "b", "s", "I", "B", "S", "ib", "bi", "Ib", "bI", "is", "sI", "SB", "iS", "bB", "IBS", "BBB", "bsB", "BBBBBBBB", "bBbBbBbB"}

// P6.5, P6.6, P6.12: there and back, and never more bytes than the width.
func TestEveryEdgeRecordAsBytes(t *testing.T) {
	for _, types := range shapes {
		s := of(types)
		longest := 0
		records(s, func(r []api.Value) {
			b, e := value.Encode(s, r)
			if !bytes.Equal(b, bookEncode(s, r)) || e != api.OK {
				t.Fatalf("%s: Encode(%v) = % x, %d, want % x", types, r, b, e, bookEncode(s, r))
			}
			if got, e := value.Decode(s, b); !slices.Equal(got, r) || e != api.OK {
				t.Fatalf("%s: Decode(% x) = %v, %d, want %v", types, b, got, e, r)
			}
			longest = max(longest, len(b))
		})
		if longest != bookWidth(s) {
			t.Errorf("%s: the longest record has %d bytes, the width is %d", types, longest, bookWidth(s))
		}
	}
}

// P6.12: of the bytes in rising order none begins the next ones.
func TestNoBytesBeginOthers(t *testing.T) {
	for _, types := range shapes {
		s := of(types)
		var all []string
		records(s, func(r []api.Value) {
			b, _ := value.Encode(s, r)
			all = append(all, string(b))
		})
		slices.Sort(all)
		for i := range len(all) - 1 {
			if strings.HasPrefix(all[i+1], all[i]) {
				t.Fatalf("%s: % x begins % x", types, all[i], all[i+1])
			}
		}
	}
}

func wantDecode(t *testing.T, s api.Schema, b []byte) {
	t.Helper()
	want, ok := bookDecode(s, b)
	e := api.ErrBytes
	if ok {
		e = api.OK
	}
	if got, errno := value.Decode(s, b); !slices.Equal(got, want) || errno != e {
		t.Fatalf("Decode(%v, % x) = %v, %d, want %v, %d", s, b, got, errno, want, e)
	}
}

// P6.6: every one or two bytes, and every list of bytes at the edges.
func TestDecodeOfEveryShortBytes(t *testing.T) {
	for _, types := range []string{"i", "b", "s", "I", "B", "S", "bb", "bB", "IB"} {
		s := of(types)
		wantDecode(t, s, nil)
		for c := range 256 {
			wantDecode(t, s, []byte{byte(c)})
		}
	}
	for _, types := range []string{"i", "s", "I", "bB"} {
		for c := range 1 << 16 {
			wantDecode(t, of(types), []byte{byte(c), byte(c >> 8)})
		}
	}
	for _, types := range []string{"i", "I", "sb", "SI", "bBi", "BBB"} {
		for _, length := range []int{3, 4} {
			drill.Scripts([]byte{0, 1, 2, 3, 7, 8, 0x7f, 0x80, 0x81, 0xff}, length, func(b []byte) { wantDecode(t, of(types), b) })
		}
	}
}

// P6.6: ints of many groups: each last group, each number of groups.
func TestDecodeOfLongInts(t *testing.T) {
	for _, types := range []string{"i", "ib", "I"} {
		s := of(types)
		head := bytes.Repeat([]byte{1}, bookHead(s))
		for groups := range 13 {
			for _, group := range []byte{0x80, 0x81, 0xfe, 0xff} {
				for last := range 256 {
					b := append(slices.Clone(head), bytes.Repeat([]byte{group}, groups)...)
					b = append(b, byte(last))
					wantDecode(t, s, b)
					wantDecode(t, s, append(b, 0))
					wantDecode(t, s, append(b, 1))
				}
			}
		}
	}
}

// P6.6: lengths of bytes against how many there are.
func TestDecodeOfLengths(t *testing.T) {
	for _, types := range []string{"s", "S", "sb"} {
		s := of(types)
		head := bytes.Repeat([]byte{1}, bookHead(s))
		for length := range 256 {
			for _, there := range []int{0, 1, 19, 20, 21, 22, length - 1, length, length + 1} {
				wantDecode(t, s, append(append(slices.Clone(head), byte(length)), bytes.Repeat([]byte{1}, max(there, 0))...))
			}
		}
	}
}

// P6.6: bits of the head that no field has.
func TestDecodeOfEveryHead(t *testing.T) {
	for optional := 1; optional <= 8; optional++ {
		s := of(strings.Repeat("B", optional))
		for head := range 256 {
			for length := range 10 {
				b := append([]byte{byte(head)}, make([]byte, length)...)
				wantDecode(t, s, b)
			}
		}
	}
}

// P6.6: a record's bytes with some cut off, with others behind, with one bit turned.
func TestDecodeOfBytesNearRecords(t *testing.T) {
	for _, types := range []string{"i", "IB", "sI", "bsB"} {
		s := of(types)
		records(s, func(r []api.Value) {
			b := bookEncode(s, r)
			for cut := range b {
				wantDecode(t, s, b[:cut])
				for bit := range 8 {
					turned := slices.Clone(b)
					turned[cut] ^= 1 << bit
					wantDecode(t, s, turned)
				}
			}
			wantDecode(t, s, append(slices.Clone(b), 0))
			wantDecode(t, s, append(slices.Clone(b), b...))
		})
	}
}

func TestDecodeOfVeryManyBytes(t *testing.T) {
	for _, types := range shapes {
		for _, c := range []byte{0, 1, 20, 0x80, 0xff} {
			if r, e := value.Decode(of(types), bytes.Repeat([]byte{c}, 1<<20)); len(r) != 0 || e != api.ErrBytes {
				t.Errorf("%s: Decode of very many bytes %d = %v, %d", types, c, r, e)
			}
		}
	}
}

// R5: what is handed in is read alone.
func TestDecodeLeavesItsBytes(t *testing.T) {
	s := of("IsB")
	b := []byte{3, 0x80, 1, 2, 'a', 'b', 1, 77}
	want := slices.Clone(b)
	value.Decode(s, b[:7])
	value.Decode(s, b)
	if !bytes.Equal(b, want) {
		t.Errorf("Decode changed what it was given: % x", b)
	}
}
