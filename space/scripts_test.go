package space_test

import (
	"slices"
	"testing"

	"arbor/api"
	"arbor/space"
)

// book: what the chapter says of a space, told plainly: a list of yes and no for each of its three sets.
type book struct {
	now, mark, last []bool
}

func newBook(blocks int) *book {
	return &book{make([]bool, blocks), make([]bool, blocks), make([]bool, blocks)}
}

func (b *book) copied() *book {
	return &book{slices.Clone(b.now), slices.Clone(b.mark), slices.Clone(b.last)}
}

func (b *book) open() []int {
	var list []int
	for n := range b.now {
		if !b.now[n] && !b.mark[n] && !b.last[n] {
			list = append(list, n)
		}
	}
	return list
}

func (b *book) used() []int {
	var list []int
	for n, is := range b.now {
		if is {
			list = append(list, n)
		}
	}
	return list
}

func (b *book) bitmap() []byte {
	bits := make([]byte, (len(b.now)+7)/8)
	for _, n := range b.used() {
		bits[n/8] += []byte{1, 2, 4, 8, 16, 32, 64, 128}[n%8]
	}
	return bits
}

func (b *book) take() (int, api.Errno) {
	list := b.open()
	if len(list) == 0 {
		return 0, api.ErrFull
	}
	b.now[list[0]] = true
	return list[0], api.OK
}

func (b *book) give(block int) api.Errno {
	if !slices.Contains(b.used(), block) {
		return api.ErrBlock
	}
	b.now[block] = false
	return api.OK
}

// The steps of a script: these, or else to give the block of that number.
const (
	stepTake = 5000 + iota
	stepMark
	stepUndo
	stepSettle
)

// play: one step of a script on the space and in the book.
func play(t *testing.T, s *space.Space, b *book, step int) {
	t.Helper()
	switch step {
	case stepTake:
		got, e := s.Take()
		if want, f := b.take(); got != want || e != f {
			t.Fatalf("Take = %d, %d, want %d, %d", got, e, want, f)
		}
	case stepMark:
		s.Mark()
		b.mark = slices.Clone(b.now)
	case stepUndo:
		s.Undo()
		b.now = slices.Clone(b.mark)
	case stepSettle:
		s.Settle()
		b.mark, b.last = slices.Clone(b.now), slices.Clone(b.now)
	default:
		got := s.Give(step)
		if want := b.give(step); got != want {
			t.Fatalf("Give(%d) = %d, want %d", step, got, want)
		}
	}
}

func wantBook(t *testing.T, s *space.Space, b *book) {
	t.Helper()
	wantUsed(t, s, b.used()...)
	wantLeft(t, s, len(b.open()))
	wantBitmap(t, s, b.bitmap()...)
}

// replayed: a new space behind a script, told by its steps.
func replayed(t *testing.T, blocks int, script []int) *space.Space {
	t.Helper()
	s, b := newSpace(t, blocks), newBook(blocks)
	for _, step := range script {
		play(t, s, b, step)
	}
	return s
}

// wantReloaded: P3.7: the bitmap loads as a space all three sets of which are what now is.
func wantReloaded(t *testing.T, s *space.Space, b *book) {
	t.Helper()
	blocks := len(b.now)
	again := loaded(t, blocks, s.Bitmap()...)
	now := b.copied()
	now.mark, now.last = slices.Clone(b.now), slices.Clone(b.now)
	wantBook(t, again, now)
	for _, block := range b.used() {
		play(t, again, now, block)
	}
	wantBook(t, again, now)
	play(t, again, now, stepMark)
	wantBook(t, again, now)
	play(t, again, now, stepTake)
	wantBook(t, again, now)
	third := loaded(t, blocks, s.Bitmap()...)
	for _, block := range b.used() {
		wantGive(t, third, block, api.OK)
	}
	third.Undo()
	wantUsed(t, third, b.used()...)
}

// key: a book's sets as one text.
func (b *book) key() string {
	var text []byte
	for _, set := range [][]bool{b.now, b.mark, b.last} {
		for _, is := range set {
			if is {
				text = append(text, 'x')
			} else {
				text = append(text, '.')
			}
		}
	}
	return string(text)
}

// Every state that a small space can come to, and every step from each of them (P3.3 to P3.7).
func TestEveryState(t *testing.T) {
	for blocks := 1; blocks <= 3; blocks++ {
		type state struct {
			book   *book
			script []int
		}
		steps := []int{stepTake, stepMark, stepUndo, stepSettle, -1}
		steps = append(steps, upTo(blocks+1)...)
		start := newBook(blocks)
		seen := map[string]bool{start.key(): true}
		for todo := []state{{start, nil}}; len(todo) > 0; todo = todo[1:] {
			here := todo[0]
			wantReloaded(t, replayed(t, blocks, here.script), here.book)
			for _, step := range steps {
				s, b := replayed(t, blocks, here.script), here.book.copied()
				play(t, s, b, step)
				wantBook(t, s, b)
				if !seen[b.key()] {
					seen[b.key()] = true
					todo = append(todo, state{b, append(slices.Clone(here.script), step)})
				}
			}
		}
		// For each block all but one: in last and now it is in mark too, for what is in last is not taken anew.
		if want := []int{0, 7, 49, 343}[blocks]; len(seen) != want {
			t.Errorf("a space of %d blocks came to %d states, want %d", blocks, len(seen), want)
		}
	}
}

// Long scripts on spaces of many sizes, those at the edges of bytes among them.
func TestLongScripts(t *testing.T) {
	seed := uint32(1)
	below := func(n int) int {
		seed = seed*1664525 + 1013904223
		return int(seed>>8) % n
	}
	for _, blocks := range []int{1, 2, 7, 8, 9, 15, 16, 17, 31, 33, 63, 64, 65, 255, 257, 2047, 2048} {
		s, b := newSpace(t, blocks), newBook(blocks)
		for count := range 1500 {
			step := stepTake
			switch below(20) {
			case 0:
				step = stepMark
			case 1:
				step = stepUndo
			case 2:
				if below(4) == 0 {
					step = stepSettle
				}
			case 3, 4, 5, 6, 7, 8:
				step = below(blocks+2) - 1
			}
			for range 1 + below(1+blocks/64) {
				play(t, s, b, step)
			}
			if count%25 == 0 {
				wantBook(t, s, b)
			}
		}
		wantReloaded(t, s, b)
	}
}
