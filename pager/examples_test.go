package pager_test

import (
	"slices"
	"testing"

	"arbor/api"
	"arbor/disk"
	"arbor/pager"
)

func TestExample1(t *testing.T) {
	wantGeometry(t, api.Geometry{Sector: 64, Per: 1, Log: 2, Blocks: 392}, 396)
	wantGeometry(t, api.Geometry{Sector: 64, Per: 1, Log: 2, Blocks: 393}, 0)
	wantGeometry(t, api.Geometry{Sector: 1024, Per: 8, Log: 64, Blocks: 2048}, 0)
	wantGeometry(t, api.Geometry{Sector: 64, Per: 2, Log: 4, Blocks: 10}, 26)
}

func TestExamples2To4(t *testing.T) {
	d, p := formatted(t, tiny)
	if got := d.Stats(); got != (api.DiskStats{Writes: 5, Flushes: 2}) {
		t.Errorf("Format asked the disk %v", got)
	}
	wantLeft(t, p, 2)
	wantPut(t, p, 76, "one", 1)
	wantPut(t, p, 76, "two", 2)
	wantNoPut(t, p, "three", api.ErrFull)
	want(t, "Drop(1)", p.Drop(1), api.OK)
	wantLeft(t, p, 1)
	wantPut(t, p, 76, "3", 1)

	want(t, "Commit(1, 2, 9)", p.Commit(1, 2, 9), api.OK)
	wantSuper(t, p, 2, 1, 2, 9)
	wantLeft(t, p, 0)
	want(t, "Drop(2)", p.Drop(2), api.OK)
	wantLeft(t, p, 0)
	want(t, "Commit(1, -1, 9)", p.Commit(1, -1, 9), api.OK)
	wantLeft(t, p, 1)

	want(t, "Begin", p.Begin(), api.OK)
	want(t, "Begin", p.Begin(), api.ErrOp)
	want(t, "Commit(-1, -1, 0)", p.Commit(-1, -1, 0), api.ErrOp)
	wantPut(t, p, 1, "", 2)
	want(t, "Drop(1)", p.Drop(1), api.OK)
	wantNoPage(t, p, 1, api.ErrBlock)
	want(t, "Cancel", p.Cancel(), api.OK)
	wantPage(t, p, 1, 76, 2, "3")
	wantNoPage(t, p, 2, api.ErrBlock)
	wantNoPage(t, p, 0, api.ErrBlock)
	want(t, "Keep", p.Keep(), api.ErrOp)
}

func TestExample5(t *testing.T) {
	for _, d := range []*disk.Disk{newDisk(t, 8, 64), newDisk(t, 1, 64), newDisk(t, 31, 32)} {
		if p, e := pager.Open(d); p != nil || e != api.ErrNoStore {
			t.Errorf("Open of zeros = %v, %d", p, e)
		}
	}
}

func TestExample6(t *testing.T) {
	d, p := formatted(t, tiny)
	wantPut(t, p, 1, "a", 1)
	want(t, "Arm(1)", d.Arm(1), api.OK)
	want(t, "Commit(1, -1, 5)", p.Commit(1, -1, 5), api.ErrPower)
	every := slices.Repeat([]bool{true}, len(d.Pending()))
	wantSuper(t, opened(t, d.Survive(every)), 2, 1, -1, 5)
	wantSuper(t, opened(t, d.Survive(nil)), 1, -1, -1, 0)
	wantSuper(t, opened(t, d.Survive(every[1:])), 1, -1, -1, 0)
}

func TestExample7(t *testing.T) {
	d, p := formatted(t, tiny)
	wantPut(t, p, 1, "a", 1)
	for commits := range 5 {
		for range commits {
			want(t, "Commit", p.Commit(1, 1, 8), api.OK)
		}
		again, e := pager.Format(d, tiny)
		want(t, "Format", e, api.OK)
		wantSuper(t, again, 1, -1, -1, 0)
		wantSuper(t, opened(t, d), 1, -1, -1, 0)
		wantLeft(t, again, 2)
		for block := range 4 {
			wantNoPage(t, again, block, api.ErrBlock)
		}
		p = again
		wantPut(t, p, 1, "a", 1)
	}
}
