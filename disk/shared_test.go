package disk_test

import (
	"bytes"
	"slices"
	"testing"

	"arbor/api"
	"arbor/disk"
)

// spoil: writes into a list, and into what an append to it may reach.
func spoil(b []byte) {
	for i := range b {
		b[i] = '!'
	}
	b = append(b, '!')
	for i := range b[:cap(b)] {
		b[:cap(b)][i] = '!'
	}
}

// P1.12: what is handed in is not kept.
func TestArgumentsAreNotKept(t *testing.T) {
	image := append(sector('A'), sector('B')...)
	d, e := disk.FromImage(image, size)
	wantErr(t, "FromImage", e, api.OK)
	spoil(image)
	wantImage(t, d, 'A', 'B')
	b := sector('C')
	wantErr(t, "Write", d.Write(0, b), api.OK)
	spoil(b)
	wantRead(t, d, 0, sector('C'))
	wantPending(t, d, 0, 'C')
	keep := []bool{true}
	s := d.Survive(keep)
	keep[0] = false
	wantImage(t, s, 'C', 'B')
	wantErr(t, "Flush", d.Flush(), api.OK)
	wantImage(t, d, 'C', 'B')
}

// P1.12: what is handed in is not changed, the spare room behind it neither.
func TestArgumentsAreNotChanged(t *testing.T) {
	image := counted(3 * size)
	d, e := disk.FromImage(image[:2*size], size)
	wantErr(t, "FromImage", e, api.OK)
	b := counted(2 * size)
	wantErr(t, "Write", d.Write(0, b[:size]), api.OK)
	wantErr(t, "Write", d.Write(1, b[:size]), api.OK)
	keep := []bool{true, false, true, true}
	s := d.Survive(keep[:1])
	wantErr(t, "Write", s.Write(1, sector('S')), api.OK)
	wantErr(t, "Flush", s.Flush(), api.OK)
	wantErr(t, "Flush", d.Flush(), api.OK)
	if !bytes.Equal(image, counted(3*size)) || !bytes.Equal(b, counted(2*size)) {
		t.Fatal("the bytes handed in were changed")
	}
	if !slices.Equal(keep, []bool{true, false, true, true}) {
		t.Fatalf("the list handed to Survive was changed: %v", keep)
	}
}

// P1.12: answers are new memory each time.
func TestAnswersAreNew(t *testing.T) {
	d := newDisk(t, 3)
	wantErr(t, "Write", d.Write(0, sector('A')), api.OK)
	wantErr(t, "Flush", d.Flush(), api.OK)
	wantErr(t, "Write", d.Write(1, sector('B')), api.OK)
	wantErr(t, "Write", d.Write(1, sector('C')), api.OK)
	for range 2 {
		durable, _ := d.Read(0)
		waiting, _ := d.Read(1)
		image, list := d.Image(), d.Pending()
		spoil(durable)
		if !bytes.Equal(waiting, sector('C')) || !bytes.Equal(image[:size], sector('A')) || !bytes.Equal(list[1].Bytes, sector('C')) {
			t.Fatal("two answers share memory")
		}
		spoil(waiting)
		spoil(image)
		if !bytes.Equal(list[0].Bytes, sector('B')) || !bytes.Equal(list[1].Bytes, sector('C')) {
			t.Fatal("two answers share memory")
		}
		spoil(list[0].Bytes)
		if !bytes.Equal(list[1].Bytes, sector('C')) {
			t.Fatal("two writes of one answer share memory")
		}
		spoil(list[1].Bytes)
		list[0].At, list[1].Bytes = 2, nil
		_ = append(list[:1], api.Write{At: 2})
		wantRead(t, d, 0, sector('A'))
		wantRead(t, d, 1, sector('C'))
		wantPending(t, d, 1, 'B', 1, 'C')
		wantImage(t, d, 'A', 0, 0)
	}
}

// P1.12: two disks share nothing.
func TestDisksShareNothing(t *testing.T) {
	d := newDisk(t, 2)
	wantErr(t, "Write", d.Write(0, sector('A')), api.OK)
	wantErr(t, "Write", d.Write(1, sector('B')), api.OK)
	s, twin := d.Survive([]bool{true, true}), d.Survive([]bool{true, true})
	wantErr(t, "Write", s.Write(0, sector('S')), api.OK)
	wantErr(t, "Write", s.Write(1, sector('S')), api.OK)
	wantErr(t, "Flush", s.Flush(), api.OK)
	wantImage(t, s, 'S', 'S')
	wantImage(t, twin, 'A', 'B')
	wantImage(t, d, 0, 0)
	wantPending(t, d, 0, 'A', 1, 'B')
	wantErr(t, "Arm", s.Arm(0), api.OK)
	wantErr(t, "Write", s.Write(0, sector('T')), api.ErrPower)
	if d.Dead() || twin.Dead() {
		t.Fatal("one disk took another's power")
	}
	wantErr(t, "Write", d.Write(0, sector('D')), api.OK)
	wantErr(t, "Flush", d.Flush(), api.OK)
	wantImage(t, d, 'D', 'B')
	wantImage(t, s, 'S', 'S')
	wantImage(t, twin, 'A', 'B')
	wantStats(t, twin, 0, 0, 0)
	wantStats(t, s, 0, 2, 1)
	wantStats(t, d, 0, 3, 1)
}
