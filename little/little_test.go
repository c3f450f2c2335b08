package little_test

import (
	"bytes"
	"math"
	"testing"

	"arbor/little"
)

func TestPutLaysTheLowestByteFirst(t *testing.T) {
	for _, c := range []struct {
		n    uint64
		want []byte
	}{
		{0, nil},
		{7, nil},
		{7, []byte{7}},
		{258, []byte{2, 1}},
		{258, []byte{2}},
		{0x01020304, []byte{4, 3, 2, 1}},
		{0x0102030405060708, []byte{8, 7, 6, 5, 4, 3, 2, 1}},
		{math.MaxUint64, []byte{255, 255}},
		{0x0102030405060708, []byte{8, 7, 6, 5, 4, 3, 2, 1, 0, 0}},
	} {
		got := bytes.Repeat([]byte{99}, len(c.want))
		little.Put(got, c.n)
		if !bytes.Equal(got, c.want) {
			t.Errorf("Put(%d bytes, %#x) = %v, want %v", len(c.want), c.n, got, c.want)
		}
	}
}

func TestNumberReadsWhatPutLaid(t *testing.T) {
	for _, n := range []uint64{0, 1, 255, 256, 65535, 1 << 31, 0x8090a0b0c0d0e0f0, math.MaxUint64} {
		for width := range 9 {
			b := make([]byte, width)
			little.Put(b, n)
			if got, want := little.Number(b), n&(1<<(8*width)-1); got != want {
				t.Errorf("Number of %d bytes of %#x = %#x, want %#x", width, n, got, want)
			}
		}
	}
}

func TestPutWritesNothingBehindItsBytes(t *testing.T) {
	b := []byte{9, 9, 9, 9}
	little.Put(b[1:3], math.MaxUint64)
	if !bytes.Equal(b, []byte{9, 255, 255, 9}) {
		t.Errorf("Put into the middle gave %v", b)
	}
}
