// Package little: numbers as bytes, the lowest byte first, as all formats of the program have them.
package little

// Put: a number into so many bytes as b has. Of a number that is too great for them the lowest bytes stand, so that -1 of a signed one is all ones.
func Put(b []byte, n uint64) {
	for place := range b {
		b[place] = byte(n)
		n >>= 8
	}
}

// Number: what Put laid into b, of at most 8 bytes.
func Number(b []byte) uint64 {
	n := uint64(0)
	for place, c := range b {
		n |= uint64(c) << (8 * place)
	}
	return n
}
