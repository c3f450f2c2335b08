package wire_test

import (
	"bytes"
	"encoding/binary"
	"slices"
	"testing"

	"arbor/api"
	"arbor/drill"
	"arbor/wire"
)

// bookCut: a stream as a whole: its parts, whether it is broken, and how many bytes stand behind the last part.
func bookCut(stream []byte) (parts [][]byte, broken bool, rest int) {
	for at := 0; ; {
		left := len(stream) - at
		if left < 4 {
			return parts, false, left
		}
		n := int(binary.LittleEndian.Uint32(stream[at:]))
		if n < 14 || n > 32768 {
			return parts, true, 0
		}
		if left < n {
			return parts, false, left
		}
		parts = append(parts, stream[at:at+n])
		at += n
	}
}

// feeds: a stream that is fed in pieces which end at some places: each Feed and each Rest are what the book says of the stream up to there.
func feeds(t *testing.T, stream []byte, ends ...int) {
	t.Helper()
	s, at, before, dead := wire.NewSplitter(), 0, 0, false
	for _, end := range append(ends, len(stream)) {
		all, broken, rest := bookCut(stream[:end])
		want := api.OK
		if broken {
			want = api.ErrWire
		}
		parts, e := s.Feed(stream[at:end])
		if e != want || !slices.EqualFunc(parts, all[before:], bytes.Equal) || dead && len(parts) > 0 {
			t.Fatalf("%d bytes, cut at %v: Feed up to %d = %d parts, %d, want %d, %d", len(stream), ends, end, len(parts), e, len(all)-before, want)
		}
		if s.Rest() != rest || s.Rest() != rest {
			t.Fatalf("%d bytes, cut at %v: Rest behind %d = %d, want %d", len(stream), ends, end, s.Rest(), rest)
		}
		at, before, dead = end, len(all), broken
	}
}

// headed: so many bytes of which the first four are a number.
func headed(n, bytes int) []byte {
	b := make([]byte, bytes)
	for i := range b {
		b[i] = byte(7 * i)
	}
	copy(b, binary.LittleEndian.AppendUint32(nil, uint32(n)))
	return b
}

func lengths() []int {
	return []int{0, 1, 4, 5, 12, 13, 14, 15, 255, 256, 32767, 32768, 32769, 65536 + 14, 1<<24 + 14, 1 << 31, 1<<31 + 14, 1<<32 - 1}
}

// P24.5, P24.6: a length is looked at as soon as it is there, whatever it is; and what stands behind a broken place means nothing.
func TestLengthsOfParts(t *testing.T) {
	for _, n := range lengths() {
		right := n >= 14 && n <= 32768
		for _, ahead := range [][]byte{nil, headed(14, 14), headed(300, 300)} {
			stream := append(bytes.Clone(ahead), headed(n, min(n+20, 40000))...)
			for _, end := range []int{0, 1, 2, 3, 4, 5} {
				feeds(t, stream, len(ahead)+end)
				feeds(t, stream, len(ahead), len(ahead)+end)
			}
			s := wire.NewSplitter()
			parts, e := s.Feed(stream[:len(ahead)+4])
			if (e == api.OK) != right || len(parts) != min(1, len(ahead)) {
				t.Errorf("a length of %d behind %d bytes: %d parts, %d", n, len(ahead), len(parts), e)
			}
			if !right {
				staysBroken(t, s)
			}
		}
	}
}

// staysBroken: whatever comes, nothing is answered.
func staysBroken(t *testing.T, s *wire.Splitter) {
	t.Helper()
	for _, piece := range [][]byte{nil, {}, {14}, headed(14, 14), headed(14, 13), headed(32768, 40000), nil} {
		if parts, e := s.Feed(piece); len(parts) != 0 || e != api.ErrWire || s.Rest() != 0 {
			t.Fatalf("behind a broken place Feed(%d bytes) = %d parts, %d, Rest %d", len(piece), len(parts), e, s.Rest())
		}
	}
}

// streams: of some parts, with what is not whole behind them, or broken.
func streams() [][]byte {
	return [][]byte{
		nil, headed(14, 14), slices.Concat(headed(14, 14), headed(15, 15)), slices.Concat(headed(16, 16), headed(14, 14), headed(14, 9)), slices.Concat(headed(14, 14), headed(14, 3)),
		slices.Concat(headed(15, 15), headed(13, 20)), slices.Concat(headed(14, 14), headed(32769, 6)), headed(0, 10), headed(32768, 20), slices.Concat(headed(17, 17), headed(14, 14), headed(5, 4)),
	}
}

// P24.8: short streams cut at any two places, and into pieces of one byte or of so many.
func TestStreamsInPieces(t *testing.T) {
	for _, stream := range streams() {
		for one := range len(stream) + 1 {
			for two := one; two <= len(stream); two++ {
				feeds(t, stream, one, two)
			}
		}
		for length := 1; length <= len(stream)+1; length++ {
			var ends []int
			for end := length; end < len(stream); end += length {
				ends = append(ends, end)
			}
			feeds(t, stream, ends...)
		}
	}
}

// P24.8: long streams of requests and of any bytes, cut by chance into pieces of many lengths, some of them empty.
func TestLongStreams(t *testing.T) {
	numbers := drill.Numbers(691)
	for round := range 300 {
		var stream []byte
		for range 1 + numbers.Below(30) {
			n := drill.Pick(&numbers, []int{14, 15, 16, 20, 60, 61, 200, 1552, 1 + numbers.Below(60)})
			if round%3 > 0 {
				n = max(n, 14)
			}
			stream = append(stream, headed(n, n)...)
		}
		if round%20 == 0 {
			stream = append(stream, headed(32768, 32768+numbers.Below(20))...)
		}
		var ends []int
		most := 1 + drill.Pick(&numbers, []int{2, 5, 20, 100, 3000})
		for end := numbers.Below(most); end < len(stream); end += numbers.Below(most) {
			ends = append(ends, end)
		}
		feeds(t, stream, ends...)
		feeds(t, stream)
	}
}

// P24.6: neither the letter nor the sum is looked at; what is cut is what came, to the byte.
func TestPartsOfAnyBytes(t *testing.T) {
	for letter := range 256 {
		b := headed(14, 14)
		b[4] = byte(letter)
		s := wire.NewSplitter()
		if parts, e := s.Feed(b); e != api.OK || len(parts) != 1 || !bytes.Equal(parts[0], b) {
			t.Errorf("letter %d: %x, %d", letter, parts, e)
		}
	}
}

// P24.6: long pieces; a piece without bytes gives nothing.
func TestLongPieces(t *testing.T) {
	many := bytes.Repeat(headed(14, 14), 300000)
	s := wire.NewSplitter()
	if parts, e := s.Feed(many[:len(many)-1]); len(parts) != 299999 || e != api.OK || s.Rest() != 13 {
		t.Errorf("%d parts, %d, Rest %d", len(parts), e, s.Rest())
	}
	if parts, e := s.Feed(nil); len(parts) != 0 || e != api.OK || s.Rest() != 13 {
		t.Errorf("Feed of nothing = %d parts, %d, Rest %d", len(parts), e, s.Rest())
	}
	if parts, e := s.Feed(slices.Concat(many[len(many)-1:], make([]byte, 1<<24))); len(parts) != 1 || e != api.ErrWire || s.Rest() != 0 {
		t.Errorf("many zeros: %d parts, %d, Rest %d", len(parts), e, s.Rest())
	}
	great := bytes.Repeat(headed(32768, 32768), 100)
	feeds(t, great)
	feeds(t, great, 1, 32767, 32768, 32772, 3<<15, 3<<15+3)
	s, got := wire.NewSplitter(), 0
	for i := range great {
		parts, e := s.Feed(great[i : i+1])
		if got += len(parts); e != api.OK || len(parts) > 0 != (i%32768 == 32767) {
			t.Fatalf("byte %d: %d parts, %d", i, len(parts), e)
		}
	}
	if got != 100 {
		t.Errorf("%d parts", got)
	}
}

// R3: a nil splitter, and what NewSplitter gives.
func TestSplittersOfNothing(t *testing.T) {
	var s *wire.Splitter
	for _, piece := range [][]byte{nil, {1}, headed(14, 14), headed(1, 4)} {
		if parts, e := s.Feed(piece); len(parts) != 0 || e != api.ErrArg || s.Rest() != 0 {
			t.Errorf("Feed(%x) of a nil splitter = %x, %d, Rest %d", piece, parts, e, s.Rest())
		}
	}
	if s = wire.NewSplitter(); s == nil || s.Rest() != 0 {
		t.Fatal("NewSplitter gives none to which nothing has come")
	}
	for range 3 {
		if parts, e := s.Feed(nil); len(parts) != 0 || e != api.OK || s.Rest() != 0 {
			t.Errorf("Feed of nothing = %x, %d, Rest %d", parts, e, s.Rest())
		}
	}
}
