package space_test

import (
	"testing"

	"arbor/api"
	"arbor/space"
)

func TestExample1(t *testing.T) {
	for _, blocks := range []int{0, -1, 2049} {
		if s, e := space.New(blocks); s != nil || e != api.ErrArg {
			t.Errorf("New(%d) = %v, %d", blocks, s, e)
		}
	}
	wantLeft(t, newSpace(t, 2048), 2048)
}

func TestExamples2And3(t *testing.T) {
	s := newSpace(t, 3)
	wantTake(t, s, 0)
	wantTake(t, s, 1)
	wantTake(t, s, 2)
	wantFull(t, s)
	wantUsed(t, s, 0, 1, 2)
	wantLeft(t, s, 0)
	wantBitmap(t, s, 7)

	wantGive(t, s, 1, api.OK)
	wantLeft(t, s, 1)
	wantTake(t, s, 1)
	wantGive(t, s, 3, api.ErrBlock)
	wantGive(t, s, -1, api.ErrBlock)
	wantGive(t, s, 2, api.OK)
	wantGive(t, s, 2, api.ErrBlock)
}

func TestExample4(t *testing.T) {
	s := newSpace(t, 4)
	wantTake(t, s, 0)
	s.Mark()
	wantGive(t, s, 0, api.OK)
	wantTake(t, s, 1)
	wantUsed(t, s, 1)
	s.Undo()
	wantUsed(t, s, 0)
	wantLeft(t, s, 3)
	wantTake(t, s, 1)
}

func TestExample5(t *testing.T) {
	s := newSpace(t, 4)
	wantTake(t, s, 0)
	wantTake(t, s, 1)
	s.Settle()
	wantGive(t, s, 0, api.OK)
	s.Mark()
	wantTake(t, s, 2)
	wantLeft(t, s, 1)
	s.Settle()
	wantLeft(t, s, 2)
	wantTake(t, s, 0)
}

func TestExample6(t *testing.T) {
	s := loaded(t, 10, 5, 2)
	wantUsed(t, s, 0, 2, 9)
	wantLeft(t, s, 7)
	wantTake(t, s, 1)
	wantGive(t, s, 0, api.OK)
	wantTake(t, s, 3)
}

func TestExample7(t *testing.T) {
	for _, c := range []struct {
		blocks int
		bitmap []byte
		want   api.Errno
	}{
		{10, []byte{5, 4}, api.ErrBlock},
		{10, []byte{5}, api.ErrSize},
		{10, []byte{5, 2, 0}, api.ErrSize},
		{0, nil, api.ErrArg},
		{8, nil, api.ErrSize},
		{2049, []byte{1}, api.ErrArg},
	} {
		if s, e := space.Load(c.blocks, c.bitmap); s != nil || e != c.want {
			t.Errorf("Load(%d, %v) = %v, %d, want %d", c.blocks, c.bitmap, s, e, c.want)
		}
	}
}

func TestExample8(t *testing.T) {
	s := newSpace(t, 2)
	s.Settle()
	wantTake(t, s, 0)
	s.Undo()
	wantUsed(t, s)
	wantLeft(t, s, 2)

	s = newSpace(t, 2)
	s.Undo()
	wantUsed(t, s)
	wantLeft(t, s, 2)
}
