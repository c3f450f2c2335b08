package disk_test

import (
	"testing"

	"arbor/api"
	"arbor/disk"
)

// The examples of the chapter, by their numbers.

func TestExample1(t *testing.T) {
	d := newDisk(t, 4)
	wantRead(t, d, 3, sector(0))
	if b, e := d.Read(4); len(b) != 0 || e != api.ErrSector {
		t.Fatalf("Read(4) = %x, %d", b, e)
	}
	wantErr(t, "Write(0, 31 bytes)", d.Write(0, make([]byte, 31)), api.ErrSize)
	wantErr(t, "Write(9, 31 bytes)", d.Write(9, make([]byte, 31)), api.ErrSector)
}

func TestExample2(t *testing.T) {
	for _, c := range [][2]int{{0, 32}, {16385, 32}, {4, 31}, {4, 1025}} {
		if d, e := disk.New(c[0], c[1]); d != nil || e != api.ErrArg {
			t.Fatalf("New(%d, %d) = %v, %d", c[0], c[1], d, e)
		}
	}
	for _, c := range []struct {
		length, size int
		want         api.Errno
	}{{33, 32, api.ErrSize}, {0, 32, api.ErrSize}, {33, 31, api.ErrArg}} {
		if d, e := disk.FromImage(make([]byte, c.length), c.size); d != nil || e != c.want {
			t.Fatalf("FromImage(%d bytes, %d) = %v, %d", c.length, c.size, d, e)
		}
	}
}

func TestExample3(t *testing.T) {
	d := newDisk(t, 2)
	wantErr(t, "Write(1, A)", d.Write(1, sector('A')), api.OK)
	wantErr(t, "Write(1, B)", d.Write(1, sector('B')), api.OK)
	wantRead(t, d, 1, sector('B'))
	wantPending(t, d, 1, 'A', 1, 'B')
	wantImage(t, d, 0, 0)
	wantRead(t, d.Survive([]bool{true}), 1, sector('A'))
	wantRead(t, d.Survive([]bool{false, true}), 1, sector('B'))
	wantRead(t, d.Survive([]bool{true, true}), 1, sector('B'))
	wantRead(t, d.Survive(nil), 1, sector(0))
	wantErr(t, "Flush", d.Flush(), api.OK)
	wantImage(t, d, 0, 'B')
	wantPending(t, d)
}

func TestExample4(t *testing.T) {
	d := newDisk(t, 4)
	wantErr(t, "Arm(1)", d.Arm(1), api.OK)
	wantErr(t, "Write(0, A)", d.Write(0, sector('A')), api.OK)
	wantErr(t, "Write(2, 5 bytes)", d.Write(2, make([]byte, 5)), api.ErrSize)
	wantErr(t, "Write(2, B)", d.Write(2, sector('B')), api.ErrPower)
	if !d.Dead() {
		t.Fatal("Dead = false")
	}
	wantPending(t, d, 0, 'A', 2, 'B')
	if b, e := d.Read(0); len(b) != 0 || e != api.ErrPower {
		t.Fatalf("Read(0) = %x, %d", b, e)
	}
	wantErr(t, "Flush", d.Flush(), api.ErrPower)
	wantErr(t, "Write(77, nothing)", d.Write(77, nil), api.ErrPower)
	wantStats(t, d, 0, 1, 0)
}

func TestExample5(t *testing.T) {
	d := newDisk(t, 1)
	wantErr(t, "Arm(0)", d.Arm(0), api.OK)
	wantErr(t, "Arm(-1)", d.Arm(-1), api.OK)
	wantErr(t, "Write(0, A)", d.Write(0, sector('A')), api.OK)
	wantErr(t, "Arm(0)", d.Arm(0), api.OK)
	wantRead(t, d, 0, sector('A'))
	wantErr(t, "Flush", d.Flush(), api.OK)
	wantErr(t, "Write(0, B)", d.Write(0, sector('B')), api.ErrPower)
}

func TestExample6(t *testing.T) {
	d := newDisk(t, 1)
	wantErr(t, "Write(0, A)", d.Write(0, sector('A')), api.OK)
	wantErr(t, "Flush", d.Flush(), api.OK)
	wantErr(t, "Write(0, B)", d.Write(0, sector('B')), api.OK)
	e := d.Survive([]bool{false})
	wantRead(t, e, 0, sector('A'))
	wantRead(t, d, 0, sector('B'))
	wantStats(t, e, 1, 0, 0)
}
