package wire

import (
	"arbor/api"
	"arbor/little"
)

// minPart: a part has at least its length, letter, number and sum, and one byte of a body.
const minPart = lengthBytes + letterBytes + idBytes + 1 + sumBytes

// Splitter: cuts a stream that comes in pieces into its parts.
type Splitter struct {
	rest   []byte // of the stream, behind the last whole part
	broken bool
}

// NewSplitter: nothing has come.
func NewSplitter() *Splitter {
	return &Splitter{}
}

// Feed: one more piece: the parts that are whole now; or the stream is broken, for good.
func (s *Splitter) Feed(piece []byte) ([][]byte, api.Errno) {
	if s == nil {
		return nil, api.ErrArg
	}
	var parts [][]byte
	for !s.broken && len(piece) > 0 {
		piece = s.fill(piece)
		if part, ok := s.next(); ok {
			parts = append(parts, part)
		}
	}
	if s.broken {
		return parts, api.ErrWire
	}
	return parts, api.OK
}

// Rest: how many bytes wait for the rest of their part.
func (s *Splitter) Rest() int {
	if s == nil {
		return 0
	}
	return len(s.rest)
}

// fill: takes of a piece what the next part lacks: of its length, if that is not whole, else of all its bytes. What it leaves is answered.
func (s *Splitter) fill(piece []byte) []byte {
	wanted := lengthBytes
	if len(s.rest) >= lengthBytes {
		wanted = s.length()
	}
	taken := min(wanted-len(s.rest), len(piece))
	s.rest = append(s.rest, piece[:taken]...)
	return piece[taken:]
}

// next: the next part, once it is whole. It is not kept.
func (s *Splitter) next() (part []byte, ok bool) {
	if len(s.rest) < lengthBytes {
		return nil, false
	}
	length := s.length()
	if length < minPart || length > api.MaxWire {
		s.rest, s.broken = nil, true
		return nil, false
	}
	if len(s.rest) < length {
		return nil, false
	}
	part, s.rest = s.rest, nil
	return part, true
}

// length: of the next part, as its first bytes tell.
func (s *Splitter) length() int {
	return int(little.Number(s.rest[:lengthBytes]))
}
