package drill

import (
	"bytes"
	"slices"
)

// Spoiled: some bytes one step away from others: changed at a place, without that place, and with another one put in there.
func (n *Numbers) Spoiled(b []byte, at int) [][]byte {
	c := Pick(n, []byte{0, 1, 2, 3, b[at] + 1, b[at] - 1, b[at] ^ 128, byte(n.Below(256))})
	return [][]byte{
		slices.Concat(b[:at], []byte{c}, b[at+1:]),
		slices.Delete(bytes.Clone(b), at, at+1),
		slices.Insert(bytes.Clone(b), at, c),
	}
}

// Turned: the same bytes with some of 32 bits turned, from a bit on, the lowest of each byte first.
func Turned(b []byte, from int, run uint32) []byte {
	b = bytes.Clone(b)
	for bit := from; run > 0 && bit < 8*len(b); bit, run = bit+1, run>>1 {
		b[bit/8] ^= byte(run&1) << (bit % 8)
	}
	return b
}

// Runs: of bits that are turned, short and long ones. The first bit of each is one of them.
func (n *Numbers) Runs() []uint32 {
	return []uint32{1, 3, 0x80000001, 0xffffffff, 0xff, uint32(n.Below(1<<16))<<16 | uint32(n.Below(1<<16)) | 1}
}
