package little_test

import (
	"bytes"
	"math"
	"testing"

	"arbor/little"
)

func TestPutLaysTheLowestByteFirst(t *testing.T) {
	for _, c := range []struct {
		n    uint64
		want []byte
	}{
		{0, nil},
		{7, nil},
		{7, []byte{7}},
		{258, []byte{2, 1}},
		{258, []byte{2}},
		{0x01020304, []byte{4, 3, 2, 1}},
		{0x0102030405060708, []byte{8, 7, 6, 5, 4, 3, 2, 1}},
		{math.MaxUint64, []byte{255, 255}},
		{0x0102030405060708, []byte{8, 7, 6, 5, 4, 3, 2, 1, 0, 0}},
	} {
		got := bytes.Repeat([]byte{99}, len(c.want))
		little.Put(got, c.n)
		if !bytes.Equal(got, c.want) {
			t.Errorf("Put(%d bytes, %#x) = %v, want %v", len(c.want), c.n, got, c.want)
		}
	}
}

func TestNumberReadsWhatPutLaid(t *testing.T) {
	for _, n := range []uint64{0, 1, 255, 256, 65535, 1 << 31, 0x8090a0b0c0d0e0f0, math.MaxUint64} {
		for width := range 9 {
			b := make([]byte, width)
			little.Put(b, n)
			if got, want := little.Number(b), n&(1<<(8*width)-1); got != want {
				t.Errorf("Number of %d bytes of %#x = %#x, want %#x", width, n, got, want)
			}
		}
	}
}

func TestPutWritesNothingBehindItsBytes(t *testing.T) {
	b := []byte{9, 9, 9, 9}
	little.Put(b[1:3], math.MaxUint64)
	if !bytes.Equal(b, []byte{9, 255, 255, 9}) {
		t.Errorf("Put into the middle gave %v", b)
	}
}

func TestAppendLaysANumberBehindSomeBytes(t *testing.T) {
	for _, head := range [][]byte{nil, {9}, make([]byte, 2, 20)} {
		for width := range 9 {
			got := little.Append(head, 0x1122334455667788, width)
			want := make([]byte, width)
			little.Put(want, 0x1122334455667788)
			if !bytes.Equal(got, append(bytes.Clone(head), want...)) {
				t.Errorf("Append(%v, .., %d) = %v", head, width, got)
			}
		}
	}
}

// A part comes back, and what stands behind it, as texts and as bytes; of fewer bytes than it tells of nothing comes.
func TestShortParts(t *testing.T) {
	for _, length := range []int{0, 1, 2, 127, 128, 255} {
		part := bytes.Repeat([]byte{7}, length)
		b := little.AppendShort([]byte{5}, part)
		if !bytes.Equal(b, little.AppendShort([]byte{5}, string(part))) || len(b) != 2+length || b[0] != 5 || int(b[1]) != length {
			t.Fatalf("a part of %d bytes is laid as %v", length, b)
		}
		got, rest, ok := little.Short(append(b[1:], 3, 4))
		if !ok || !bytes.Equal(got, part) || !bytes.Equal(rest, []byte{3, 4}) {
			t.Errorf("a part of %d bytes comes back as %v, %v, %v", length, got, rest, ok)
		}
		for cut := range length + 1 {
			if got, rest, ok := little.Short(b[1 : 1+cut]); ok || len(got)+len(rest) != 0 {
				t.Errorf("%d of %d bytes: %v, %v", cut, length+1, got, rest)
			}
		}
	}
}

// Likewise of parts with a longer number ahead of them; a number that is greater than all that stands there is no part's.
func TestSizedParts(t *testing.T) {
	for width := range 9 {
		for _, length := range []int{0, 1, 255, 256, 65535, 65536} {
			if length >= 1<<(8*min(width, 3)) {
				continue
			}
			part := bytes.Repeat([]byte{7}, length)
			b := little.AppendSized([]byte{5}, part, width)
			if !bytes.Equal(b, little.AppendSized([]byte{5}, string(part), width)) || !bytes.Equal(b, append(little.Append([]byte{5}, uint64(length), width), part...)) {
				t.Fatalf("a part of %d bytes behind %d is laid as %v", length, width, b[:min(len(b), 12)])
			}
			got, rest, ok := little.Sized(append(b[1:], 3, 4), width)
			if !ok || !bytes.Equal(got, part) || !bytes.Equal(rest, []byte{3, 4}) {
				t.Errorf("a part of %d bytes behind %d comes back as %d bytes, %v, %v", length, width, len(got), rest, ok)
			}
			for cut := range min(width+length, 500) {
				if got, rest, ok := little.Sized(b[1:1+cut], width); ok || len(got)+len(rest) != 0 {
					t.Errorf("%d of %d bytes: %v, %v", cut, width+length, got, rest)
				}
			}
		}
		huge := bytes.Repeat([]byte{255}, width+3)
		if _, _, ok := little.Sized(huge, width); ok != (width == 0) {
			t.Errorf("the greatest number of %d bytes: %v", width, ok)
		}
	}
}
