package space_test

import (
	"bytes"
	"math"
	"slices"
	"testing"

	"arbor/api"
	"arbor/space"
)

func newSpace(t *testing.T, blocks int) *space.Space {
	t.Helper()
	s, e := space.New(blocks)
	if s == nil || e != api.OK {
		t.Fatalf("New(%d) = %v, %d", blocks, s, e)
	}
	return s
}

func loaded(t *testing.T, blocks int, bitmap ...byte) *space.Space {
	t.Helper()
	s, e := space.Load(blocks, bitmap)
	if s == nil || e != api.OK {
		t.Fatalf("Load(%d, %v) = %v, %d", blocks, bitmap, s, e)
	}
	return s
}

func wantTake(t *testing.T, s *space.Space, want int) {
	t.Helper()
	if got, e := s.Take(); got != want || e != api.OK {
		t.Fatalf("Take = %d, %d, want %d", got, e, want)
	}
}

func wantFull(t *testing.T, s *space.Space) {
	t.Helper()
	if got, e := s.Take(); got != 0 || e != api.ErrFull {
		t.Fatalf("Take = %d, %d, want 0 and ErrFull", got, e)
	}
}

func wantGive(t *testing.T, s *space.Space, block int, want api.Errno) {
	t.Helper()
	if got := s.Give(block); got != want {
		t.Fatalf("Give(%d) = %d, want %d", block, got, want)
	}
}

func wantUsed(t *testing.T, s *space.Space, want ...int) {
	t.Helper()
	if got := s.Used(); !slices.Equal(got, want) {
		t.Fatalf("Used = %v, want %v", got, want)
	}
}

func wantLeft(t *testing.T, s *space.Space, want int) {
	t.Helper()
	if got := s.Left(); got != want {
		t.Fatalf("Left = %d, want %d", got, want)
	}
}

func wantBitmap(t *testing.T, s *space.Space, want ...byte) {
	t.Helper()
	if got := s.Bitmap(); !bytes.Equal(got, want) {
		t.Fatalf("Bitmap = %v, want %v", got, want)
	}
}

// upTo: the numbers from 0 on, n of them.
func upTo(n int) []int {
	list := make([]int, n)
	for i := range list {
		list[i] = i
	}
	return list
}

// wrongCounts: no space has so many blocks.
var wrongCounts = []int{math.MinInt, math.MinInt + 1, -2048, -8, -1, 0, 2049, 2056, 1 << 16, 1<<32 + 5, math.MaxInt - 7, math.MaxInt}

// P3.1: what New takes, and what it refuses.
func TestNewBounds(t *testing.T) {
	for _, blocks := range wrongCounts {
		if s, e := space.New(blocks); s != nil || e != api.ErrArg {
			t.Errorf("New(%d) = %v, %d, want nil and ErrArg", blocks, s, e)
		}
	}
	for blocks := 1; blocks <= api.MaxBlocks; blocks++ {
		s := newSpace(t, blocks)
		wantLeft(t, s, blocks)
		wantUsed(t, s)
		wantBitmap(t, s, make([]byte, (blocks+7)/8)...)
	}
}

// P3.1: mark and last of a new space are empty, so that a block taken and given back is open at once.
func TestNewIsEmpty(t *testing.T) {
	s := newSpace(t, 2)
	s.Undo()
	wantUsed(t, s)
	wantTake(t, s, 0)
	wantTake(t, s, 1)
	wantGive(t, s, 0, api.OK)
	wantLeft(t, s, 1)
	wantTake(t, s, 0)
	s.Undo()
	wantUsed(t, s)
	wantLeft(t, s, 2)
}

// P3.2: a wrong count comes ahead of a wrong length, a wrong length ahead of a stray bit.
func TestLoadErrors(t *testing.T) {
	for _, blocks := range wrongCounts {
		for _, bitmap := range [][]byte{nil, {}, {1}, {255, 255}, make([]byte, 256), make([]byte, 257)} {
			if s, e := space.Load(blocks, bitmap); s != nil || e != api.ErrArg {
				t.Errorf("Load(%d, %d bytes) = %v, %d, want nil and ErrArg", blocks, len(bitmap), s, e)
			}
		}
	}
	for _, blocks := range []int{1, 7, 8, 9, 15, 16, 17, 64, 2041, 2047, 2048} {
		size := (blocks + 7) / 8
		for _, wrong := range []int{0, 1, size - 1, size + 1, 2 * size, 256, 257, 100000} {
			if wrong == size {
				continue
			}
			for _, fill := range []byte{0, 255} {
				if s, e := space.Load(blocks, bytes.Repeat([]byte{fill}, wrong)); s != nil || e != api.ErrSize {
					t.Errorf("Load(%d, %d bytes of %d) = %v, %d, want nil and ErrSize", blocks, wrong, fill, s, e)
				}
			}
		}
	}
}

// P3.2: of a bitmap with just one bit set, for every bit of every length of the last byte.
func TestLoadOneBit(t *testing.T) {
	for _, blocks := range []int{1, 2, 3, 4, 5, 6, 7, 8, 9, 10, 16, 17, 33, 2041, 2045, 2047, 2048} {
		size := (blocks + 7) / 8
		for n := range 8 * size {
			bitmap := make([]byte, size)
			bitmap[n/8] = byte(1 << (n % 8))
			s, e := space.Load(blocks, bitmap)
			if n >= blocks {
				if s != nil || e != api.ErrBlock {
					t.Fatalf("Load(%d) with bit %d = %v, %d, want nil and ErrBlock", blocks, n, s, e)
				}
				continue
			}
			if s == nil || e != api.OK {
				t.Fatalf("Load(%d) with bit %d = %v, %d", blocks, n, s, e)
			}
			wantUsed(t, s, n)
			wantLeft(t, s, blocks-1)
			wantBitmap(t, s, bitmap...)
		}
	}
}

// P3.2: a stray bit is told among any others too.
func TestLoadStrayAmongOthers(t *testing.T) {
	for _, c := range []struct {
		blocks int
		bitmap []byte
	}{{1, []byte{3}}, {1, []byte{129}}, {7, []byte{255}}, {9, []byte{255, 3}}, {15, []byte{0, 128}}, {15, []byte{255, 255}}} {
		if s, e := space.Load(c.blocks, c.bitmap); s != nil || e != api.ErrBlock {
			t.Errorf("Load(%d, %v) = %v, %d, want nil and ErrBlock", c.blocks, c.bitmap, s, e)
		}
	}
}

// P3.2: all three sets are the bitmap's: what is given back comes neither by way of mark nor of last.
func TestLoadFillsAllSets(t *testing.T) {
	s := loaded(t, 3, 1)
	wantGive(t, s, 0, api.OK)
	wantLeft(t, s, 2)
	s.Mark()
	wantLeft(t, s, 2) // 0 is in last still
	wantTake(t, s, 1)

	s = loaded(t, 3, 1)
	wantGive(t, s, 0, api.OK)
	wantTake(t, s, 1)
	s.Undo() // 0 is in mark
	wantUsed(t, s, 0)
}

// P3.2: a full bitmap, with and without spare bits in its last byte.
func TestLoadFull(t *testing.T) {
	for _, blocks := range []int{1, 7, 8, 9, 2047, 2048} {
		bitmap := bytes.Repeat([]byte{255}, (blocks+7)/8)
		if spare := 8*len(bitmap) - blocks; spare > 0 {
			bitmap[len(bitmap)-1] >>= spare
		}
		s := loaded(t, blocks, bitmap...)
		wantUsed(t, s, upTo(blocks)...)
		wantLeft(t, s, 0)
		wantFull(t, s)
		wantBitmap(t, s, bitmap...)
	}
}

// P3.3: blocks are taken from the lowest up, and a refused Take changes nothing.
func TestTakeAll(t *testing.T) {
	for _, blocks := range []int{1, 7, 8, 9, 2047, 2048} {
		s := newSpace(t, blocks)
		for n := range blocks {
			wantLeft(t, s, blocks-n)
			wantTake(t, s, n)
		}
		before := s.Bitmap()
		for range 3 {
			wantFull(t, s)
			wantLeft(t, s, 0)
			wantUsed(t, s, upTo(blocks)...)
			wantBitmap(t, s, before...)
		}
		wantGive(t, s, blocks-1, api.OK)
		wantTake(t, s, blocks-1)
	}
}

// P3.3: a space may be full though little of it is in use.
func TestTakeFullByMarkAndLast(t *testing.T) {
	s := newSpace(t, 3)
	wantTake(t, s, 0)
	s.Settle()
	wantGive(t, s, 0, api.OK)
	wantTake(t, s, 1)
	s.Mark()
	wantGive(t, s, 1, api.OK)
	wantTake(t, s, 2)
	wantGive(t, s, 2, api.OK)
	wantTake(t, s, 2)
	wantFull(t, s) // 0 is in last, 1 in mark, 2 in now
	wantUsed(t, s, 2)
	wantLeft(t, s, 0)
	s.Undo()
	wantUsed(t, s, 1)
	wantTake(t, s, 2)
}

// P3.4: blocks that are not in use are refused, and nothing is changed.
func TestGiveRefused(t *testing.T) {
	s := loaded(t, 10, 5, 2)
	wantGive(t, s, 2, api.OK)
	for _, block := range []int{math.MinInt, math.MinInt + 9, -2048, -16, -8, -7, -1, 1, 2, 3, 8, 10, 11, 15, 16, 24, 2047, 2048, 1 << 32, math.MaxInt - 6, math.MaxInt} {
		wantGive(t, s, block, api.ErrBlock)
		wantUsed(t, s, 0, 9)
		wantLeft(t, s, 7)
		wantBitmap(t, s, 1, 2)
	}
	s.Undo()
	wantUsed(t, s, 0, 2, 9)
}

// P3.4: a block taken since the mark and given back is the next to be taken, if it is the lowest.
func TestGiveOpensAtOnce(t *testing.T) {
	s := newSpace(t, 20)
	for n := range 12 {
		wantTake(t, s, n)
	}
	s.Settle()
	wantTake(t, s, 12)
	wantTake(t, s, 13)
	wantTake(t, s, 14)
	wantGive(t, s, 13, api.OK)
	wantLeft(t, s, 6)
	wantGive(t, s, 14, api.OK)
	wantGive(t, s, 3, api.OK) // in last: not open
	wantLeft(t, s, 7)
	wantTake(t, s, 13)
	wantTake(t, s, 14)
	wantTake(t, s, 15)
	wantUsed(t, s, 0, 1, 2, 4, 5, 6, 7, 8, 9, 10, 11, 12, 13, 14, 15)
}

// P3.5: Mark leaves now and last as they are, Undo mark and last, Settle now.
func TestMarkUndoSettle(t *testing.T) {
	s := newSpace(t, 5)
	wantTake(t, s, 0)
	wantTake(t, s, 1)
	s.Settle()
	wantUsed(t, s, 0, 1)
	wantGive(t, s, 0, api.OK)
	wantTake(t, s, 2)
	s.Mark()
	wantUsed(t, s, 1, 2)
	wantLeft(t, s, 2) // 0 is in last
	wantGive(t, s, 1, api.OK)
	wantTake(t, s, 3)
	for range 3 {
		s.Undo()
		wantUsed(t, s, 1, 2)
		wantLeft(t, s, 2)
	}
	wantGive(t, s, 2, api.OK)
	wantLeft(t, s, 2) // 2 is in mark still, behind the undo
	s.Settle()
	wantUsed(t, s, 1)
	wantLeft(t, s, 4)
	wantTake(t, s, 0)
	s.Undo()
	wantUsed(t, s, 1)
}

// P3.5: what is done to now behind a mark, an undo or a settling is not done to the sets that it became.
func TestSetsPart(t *testing.T) {
	s := newSpace(t, 4)
	wantTake(t, s, 0)
	s.Mark()
	wantTake(t, s, 1)
	s.Undo()
	wantTake(t, s, 1)
	wantGive(t, s, 0, api.OK)
	s.Undo()
	wantUsed(t, s, 0)
	s.Settle()
	wantTake(t, s, 1)
	s.Mark()
	wantGive(t, s, 1, api.OK)
	wantGive(t, s, 0, api.OK)
	s.Mark() // mark is empty, last is 0
	wantTake(t, s, 1)
	wantGive(t, s, 1, api.OK)
	s.Undo()
	wantUsed(t, s)
	wantLeft(t, s, 3)
}

// P3.6: to ask changes nothing.
func TestAskingChangesNothing(t *testing.T) {
	s := loaded(t, 10, 5, 2)
	wantGive(t, s, 2, api.OK)
	wantTake(t, s, 1)
	for range 3 {
		wantUsed(t, s, 0, 1, 9)
		wantLeft(t, s, 6)
		wantBitmap(t, s, 3, 2)
	}
	s.Undo()
	wantUsed(t, s, 0, 2, 9)
	wantLeft(t, s, 7)
}

// R3: a nil space.
func TestNilSpace(t *testing.T) {
	var s *space.Space
	if got, e := s.Take(); got != 0 || e != api.ErrArg {
		t.Errorf("Take of nil = %d, %d", got, e)
	}
	for _, block := range []int{-1, 0, 5, math.MaxInt} {
		wantGive(t, s, block, api.ErrArg)
	}
	s.Mark()
	s.Undo()
	s.Settle()
	wantUsed(t, s)
	wantLeft(t, s, 0)
	wantBitmap(t, s)
}

// R4: a nil bitmap is an empty one.
func TestNilBitmap(t *testing.T) {
	for _, bitmap := range [][]byte{nil, {}} {
		if s, e := space.Load(8, bitmap); s != nil || e != api.ErrSize {
			t.Errorf("Load(8, %#v) = %v, %d", bitmap, s, e)
		}
		if s, e := space.Load(0, bitmap); s != nil || e != api.ErrArg {
			t.Errorf("Load(0, %#v) = %v, %d", bitmap, s, e)
		}
	}
}

// R5: what is handed in is neither changed nor kept, and answers are new memory.
func TestNothingIsShared(t *testing.T) {
	backing := []byte{5, 2, 77, 78}
	s := loaded(t, 10, backing[:2]...)
	wantTake(t, s, 1)
	wantGive(t, s, 0, api.OK)
	s.Settle()
	if !bytes.Equal(backing, []byte{5, 2, 77, 78}) {
		t.Fatalf("the bitmap handed in became %v", backing)
	}
	backing[0], backing[1] = 255, 255
	wantUsed(t, s, 1, 2, 9)

	used, bitmap := s.Used(), s.Bitmap()
	for i := range used {
		used[i] = 7
	}
	for i := range bitmap {
		bitmap[i] = 0
	}
	_, _ = append(used, 8), append(bitmap, 8)
	wantUsed(t, s, 1, 2, 9)
	wantBitmap(t, s, 6, 2)
	s.Undo()
	wantUsed(t, s, 1, 2, 9)
	wantLeft(t, s, 7)
}

// R6: two spaces know nothing of one another.
func TestTwoSpaces(t *testing.T) {
	bitmap := []byte{5, 2}
	a, b, c := loaded(t, 10, bitmap...), loaded(t, 10, bitmap...), newSpace(t, 10)
	wantTake(t, a, 1)
	wantGive(t, a, 9, api.OK)
	a.Settle()
	wantUsed(t, b, 0, 2, 9)
	wantLeft(t, b, 7)
	wantUsed(t, c)
	wantLeft(t, c, 10)
	wantTake(t, c, 0)
	c.Mark()
	wantUsed(t, a, 0, 1, 2)
	b.Undo()
	wantUsed(t, b, 0, 2, 9)
	wantTake(t, newSpace(t, 10), 0)
}
