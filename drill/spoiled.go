package drill

import (
	"bytes"
	"slices"
)

// Spoiled: some bytes one step away from others: changed at a place, without that place, and with another one put in there.
func (n *Numbers) Spoiled(b []byte, at int) [][]byte {
	c := Pick(n, []byte{0, 1, 2, 3, b[at] + 1, b[at] - 1, b[at] ^ 128, byte(n.Below(256))})
	return [][]byte{
		slices.Concat(b[:at], []byte{c}, b[at+1:]),
		slices.Delete(bytes.Clone(b), at, at+1),
		slices.Insert(bytes.Clone(b), at, c),
	}
}
