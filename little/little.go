// Package little: numbers as bytes, the lowest byte first, and parts with the number of their bytes ahead of them, as all formats of the program have them.
package little

// Put: a number into so many bytes as b has. Of a number that is too great for them the lowest bytes stand, so that -1 of a signed one is all ones.
func Put(b []byte, n uint64) {
	for place := range b {
		b[place] = byte(n)
		n >>= 8
	}
}

// Number: what Put laid into b, of at most 8 bytes.
func Number(b []byte) uint64 {
	n := uint64(0)
	for place, c := range b {
		n |= uint64(c) << (8 * place)
	}
	return n
}

// Append: some bytes, and behind them a number in so many.
func Append(b []byte, n uint64, bytes int) []byte {
	b = append(b, make([]byte, bytes)...)
	Put(b[len(b)-bytes:], n)
	return b
}

// AppendShort: some bytes, and behind them a part of at most 255 with the number of its bytes ahead of it, in one.
func AppendShort[Part ~string | ~[]byte](b []byte, part Part) []byte {
	return AppendSized(b, part, 1)
}

// Short: the part that AppendShort laid at the head of some bytes, and what stands behind it.
func Short(b []byte) (part, rest []byte, ok bool) {
	return Sized(b, 1)
}

// AppendSized: some bytes, and behind them a part with the number of its bytes ahead of it, in so many.
func AppendSized[Part ~string | ~[]byte](b []byte, part Part, bytes int) []byte {
	return append(Append(b, uint64(len(part)), bytes), part...)
}

// Sized: the part that AppendSized laid at the head of some bytes, and what stands behind it.
func Sized(b []byte, bytes int) (part, rest []byte, ok bool) {
	if len(b) < bytes || Number(b[:bytes]) > uint64(len(b)-bytes) {
		return nil, nil, false
	}
	end := bytes + int(Number(b[:bytes]))
	return b[bytes:end], b[end:], true
}
