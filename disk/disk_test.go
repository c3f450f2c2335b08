package disk_test

import (
	"bytes"
	"math"
	"testing"

	"arbor/api"
	"arbor/disk"
)

const size = api.MinSize

// sector: the bytes of a smallest sector, all of them b.
func sector(b byte) []byte { return bytes.Repeat([]byte{b}, size) }

// counted: n bytes that differ from sector to sector and within one.
func counted(n int) []byte {
	b := make([]byte, n)
	for i := range b {
		b[i] = byte(i % 251)
	}
	return b
}

func newDisk(t *testing.T, sectors int) *disk.Disk {
	t.Helper()
	d, e := disk.New(sectors, size)
	if d == nil || e != api.OK {
		t.Fatalf("New(%d, %d) = %v, %d", sectors, size, d, e)
	}
	return d
}

func wantErr(t *testing.T, what string, got, want api.Errno) {
	t.Helper()
	if got != want {
		t.Fatalf("%s = %d, want %d", what, got, want)
	}
}

func wantRead(t *testing.T, d *disk.Disk, at int, want []byte) {
	t.Helper()
	if got, e := d.Read(at); e != api.OK || !bytes.Equal(got, want) {
		t.Fatalf("Read(%d) = %x, %d, want %x", at, got, e, want)
	}
}

func wantImage(t *testing.T, d *disk.Disk, want ...byte) {
	t.Helper()
	var all []byte
	for _, b := range want {
		all = append(all, sector(b)...)
	}
	if got := d.Image(); !bytes.Equal(got, all) {
		t.Fatalf("Image = %x, want %x", got, all)
	}
}

// wantPending: writes told as pairs: a sector's number, the byte that fills it.
func wantPending(t *testing.T, d *disk.Disk, pairs ...int) {
	t.Helper()
	got := d.Pending()
	if len(got) != len(pairs)/2 {
		t.Fatalf("Pending has %d writes, want %d", len(got), len(pairs)/2)
	}
	for j, w := range got {
		if w.At != pairs[2*j] || !bytes.Equal(w.Bytes, sector(byte(pairs[2*j+1]))) {
			t.Fatalf("Pending[%d] = %d, %x, want %v", j, w.At, w.Bytes, pairs[2*j:2*j+2])
		}
	}
}

func wantStats(t *testing.T, d *disk.Disk, reads, writes, flushes int) {
	t.Helper()
	want := api.DiskStats{Reads: reads, Writes: writes, Flushes: flushes}
	if got := d.Stats(); got != want {
		t.Fatalf("Stats = %+v, want %+v", got, want)
	}
}

// wantFresh: a disk as New, FromImage and Survive give it, but for its durable bytes.
func wantFresh(t *testing.T, d *disk.Disk) {
	t.Helper()
	wantStats(t, d, 0, 0, 0)
	wantPending(t, d)
	if d.Dead() {
		t.Fatal("a fresh disk is dead")
	}
	_, bytesEach := d.Shape()
	for range 3 {
		wantErr(t, "Write of a fresh disk", d.Write(0, make([]byte, bytesEach)), api.OK)
	}
}

// deadDisk: two sectors: 'A' durable in sector 0, 'B' waiting in 0, 'C' in 1 as the write with which the power went.
func deadDisk(t *testing.T) *disk.Disk {
	t.Helper()
	d := newDisk(t, 2)
	wantErr(t, "Write", d.Write(0, sector('A')), api.OK)
	wantErr(t, "Flush", d.Flush(), api.OK)
	wantErr(t, "Arm", d.Arm(1), api.OK)
	wantErr(t, "Write", d.Write(0, sector('B')), api.OK)
	wantErr(t, "the last Write", d.Write(1, sector('C')), api.ErrPower)
	return d
}

// P1.1, P1.3
func TestNew(t *testing.T) {
	for _, c := range []struct {
		sectors, size int
		want          api.Errno
	}{
		{1, api.MinSize, api.OK},
		{1, api.MaxSize, api.OK},
		{5, 100, api.OK},
		{api.MaxSectors, api.MinSize, api.OK},
		{api.MaxSectors, api.MaxSize, api.OK},
		{0, api.MinSize, api.ErrArg},
		{-1, api.MinSize, api.ErrArg},
		{api.MaxSectors + 1, api.MinSize, api.ErrArg},
		{1, api.MinSize - 1, api.ErrArg},
		{1, api.MaxSize + 1, api.ErrArg},
		{1, 0, api.ErrArg},
		{1, -api.MinSize, api.ErrArg},
		{-1, -api.MinSize, api.ErrArg},
		{math.MaxInt, api.MinSize, api.ErrArg},
		{math.MinInt, api.MinSize, api.ErrArg},
		{1, math.MaxInt, api.ErrArg},
		{1, math.MinInt, api.ErrArg},
		{math.MaxInt, math.MaxInt, api.ErrArg},
	} {
		d, e := disk.New(c.sectors, c.size)
		if e != c.want || (d == nil) != (c.want != api.OK) {
			t.Fatalf("New(%d, %d) = %v, %d, want %d", c.sectors, c.size, d != nil, e, c.want)
		}
		if d == nil {
			continue
		}
		if n, z := d.Shape(); n != c.sectors || z != c.size {
			t.Fatalf("Shape = %d, %d, want %d, %d", n, z, c.sectors, c.size)
		}
		if !bytes.Equal(d.Image(), make([]byte, c.sectors*c.size)) {
			t.Fatalf("New(%d, %d): durable bytes are not all zero", c.sectors, c.size)
		}
		wantFresh(t, d)
	}
}

// P1.2, P1.3
func TestFromImage(t *testing.T) {
	for _, c := range []struct {
		length, size int
		want         api.Errno
	}{
		{api.MinSize, api.MinSize, api.OK},
		{3 * 100, 100, api.OK},
		{api.MaxSize, api.MaxSize, api.OK},
		{api.MaxSectors * api.MinSize, api.MinSize, api.OK},
		{api.MaxSectors * api.MaxSize, api.MaxSize, api.OK},
		{0, api.MinSize, api.ErrSize},
		{1, api.MinSize, api.ErrSize},
		{api.MinSize - 1, api.MinSize, api.ErrSize},
		{api.MinSize + 1, api.MinSize, api.ErrSize},
		{(api.MaxSectors + 1) * api.MinSize, api.MinSize, api.ErrSize},
		{(api.MaxSectors + 1) * api.MaxSize, api.MaxSize, api.ErrSize},
		{api.MaxSectors*api.MinSize + 1, api.MinSize, api.ErrSize},
		{2 * (api.MinSize - 1), api.MinSize - 1, api.ErrArg},
		{2 * (api.MaxSize + 1), api.MaxSize + 1, api.ErrArg},
		{api.MinSize + 1, api.MinSize - 1, api.ErrArg},
		{0, api.MaxSize + 1, api.ErrArg},
		{64, 0, api.ErrArg},
		{64, -32, api.ErrArg},
		{64, math.MaxInt, api.ErrArg},
		{64, math.MinInt, api.ErrArg},
	} {
		image := counted(c.length)
		d, e := disk.FromImage(image, c.size)
		if e != c.want || (d == nil) != (c.want != api.OK) {
			t.Fatalf("FromImage(%d bytes, %d) = %v, %d, want %d", c.length, c.size, d != nil, e, c.want)
		}
		if d == nil {
			continue
		}
		if n, z := d.Shape(); n != c.length/c.size || z != c.size {
			t.Fatalf("Shape = %d, %d", n, z)
		}
		if !bytes.Equal(d.Image(), image) {
			t.Fatalf("FromImage(%d bytes, %d): Image is another one", c.length, c.size)
		}
		wantFresh(t, d)
	}
	if d, e := disk.FromImage(nil, size); d != nil || e != api.ErrSize {
		t.Fatalf("FromImage(nil, %d) = %v, %d", size, d, e)
	}
	if d, e := disk.FromImage(nil, size-1); d != nil || e != api.ErrArg {
		t.Fatalf("FromImage(nil, %d) = %v, %d", size-1, d, e)
	}
}

// P1.2: sector k is the image's bytes from k·size on.
func TestFromImageSectors(t *testing.T) {
	image := counted(4 * 33)
	d, e := disk.FromImage(image, 33)
	wantErr(t, "FromImage", e, api.OK)
	for k := range 4 {
		wantRead(t, d, k, image[k*33:(k+1)*33])
	}
}

// P1.4
func TestRead(t *testing.T) {
	d := newDisk(t, 4)
	for at := range 4 {
		wantRead(t, d, at, sector(0))
	}
	for _, at := range []int{-1, -4, 4, 5, api.MaxSectors, 1 << 58, 1 << 59, math.MaxInt, math.MinInt} {
		if b, e := d.Read(at); len(b) != 0 || e != api.ErrSector {
			t.Fatalf("Read(%d) = %x, %d", at, b, e)
		}
	}
	wantErr(t, "Write", d.Write(2, counted(size)), api.OK)
	wantRead(t, d, 2, counted(size))
	wantRead(t, d, 1, sector(0))
	wantRead(t, d, 3, sector(0))
	wantErr(t, "Flush", d.Flush(), api.OK)
	wantRead(t, d, 2, counted(size))
	wantErr(t, "Write", d.Write(2, sector('A')), api.OK)
	wantErr(t, "Write", d.Write(3, sector('B')), api.OK)
	wantErr(t, "Write", d.Write(2, sector('C')), api.OK)
	wantErr(t, "Write", d.Write(0, sector('D')), api.OK)
	wantRead(t, d, 0, sector('D'))
	wantRead(t, d, 2, sector('C'))
	wantRead(t, d, 3, sector('B'))
}

// P1.5
func TestWriteRefused(t *testing.T) {
	d := newDisk(t, 4)
	wantErr(t, "Arm", d.Arm(1), api.OK)
	for _, c := range []struct {
		at, length int
		want       api.Errno
	}{
		{-1, size, api.ErrSector},
		{4, size, api.ErrSector},
		{math.MaxInt, size, api.ErrSector},
		{math.MinInt, size, api.ErrSector},
		{1 << 59, size, api.ErrSector},
		{4, size - 1, api.ErrSector},
		{-1, 0, api.ErrSector},
		{0, size - 1, api.ErrSize},
		{3, size + 1, api.ErrSize},
		{0, 2 * size, api.ErrSize},
		{0, 0, api.ErrSize},
		{0, 1 << 20, api.ErrSize},
	} {
		if e := d.Write(c.at, make([]byte, c.length)); e != c.want {
			t.Fatalf("Write(%d, %d bytes) = %d, want %d", c.at, c.length, e, c.want)
		}
	}
	wantErr(t, "Write of nil", d.Write(0, nil), api.ErrSize)
	wantPending(t, d)
	wantStats(t, d, 0, 0, 0)
	wantErr(t, "the write that goes well", d.Write(0, sector('A')), api.OK)
	wantErr(t, "a refused write of a spent disk", d.Write(4, sector('A')), api.ErrSector)
	wantErr(t, "a refused write of a spent disk", d.Write(0, nil), api.ErrSize)
	if d.Dead() {
		t.Fatal("a refused write took the power")
	}
	wantErr(t, "the write with which the power goes", d.Write(3, sector('B')), api.ErrPower)
	wantPending(t, d, 0, 'A', 3, 'B')
}

// P1.5, P1.9: a second write of a sector waits beside the first one.
func TestTwoWritesOfOneSector(t *testing.T) {
	d := newDisk(t, 2)
	wantErr(t, "Write", d.Write(1, sector('A')), api.OK)
	wantErr(t, "Write", d.Write(1, sector('B')), api.OK)
	wantErr(t, "Write", d.Write(0, sector('C')), api.OK)
	wantErr(t, "Write", d.Write(1, sector('B')), api.OK)
	wantPending(t, d, 1, 'A', 1, 'B', 0, 'C', 1, 'B')
	wantImage(t, d, 0, 0)
}

// P1.6
func TestFlush(t *testing.T) {
	d := newDisk(t, 3)
	wantErr(t, "Flush of an empty cache", d.Flush(), api.OK)
	wantImage(t, d, 0, 0, 0)
	wantErr(t, "Write", d.Write(1, sector('A')), api.OK)
	wantErr(t, "Write", d.Write(2, sector('B')), api.OK)
	wantErr(t, "Write", d.Write(1, sector('C')), api.OK)
	wantImage(t, d, 0, 0, 0)
	wantErr(t, "Flush", d.Flush(), api.OK)
	wantImage(t, d, 0, 'C', 'B')
	wantPending(t, d)
	wantRead(t, d, 1, sector('C'))
	wantErr(t, "Flush", d.Flush(), api.OK)
	wantImage(t, d, 0, 'C', 'B')
	wantErr(t, "Write", d.Write(0, sector('D')), api.OK)
	wantPending(t, d, 0, 'D')
	wantRead(t, d, 1, sector('C'))
	wantRead(t, d, 0, sector('D'))
	wantErr(t, "Flush", d.Flush(), api.OK)
	wantImage(t, d, 'D', 'C', 'B')
}

// P1.7: just so many writes go well.
func TestArmCounts(t *testing.T) {
	for _, n := range []int{0, 1, 2, 7} {
		d := newDisk(t, 2)
		wantErr(t, "Arm", d.Arm(n), api.OK)
		for range n {
			wantErr(t, "Write", d.Write(1, sector('A')), api.OK)
			wantRead(t, d, 1, sector('A'))
			wantErr(t, "Flush", d.Flush(), api.OK)
		}
		wantRead(t, d, 0, sector(0))
		wantErr(t, "Flush", d.Flush(), api.OK)
		if d.Dead() {
			t.Fatalf("Arm(%d): dead ahead of the last write", n)
		}
		wantErr(t, "the last Write", d.Write(0, sector('B')), api.ErrPower)
		if !d.Dead() {
			t.Fatalf("Arm(%d): power behind the last write", n)
		}
		wantPending(t, d, 0, 'B')
		wantStats(t, d, n+1, n, n+1)
	}
}

// P1.7: a later Arm takes the place of an earlier one; below 0 there is none.
func TestArmAgain(t *testing.T) {
	for _, never := range []int{-1, -2, math.MinInt} {
		d := newDisk(t, 1)
		wantErr(t, "Arm", d.Arm(0), api.OK)
		wantErr(t, "Arm", d.Arm(never), api.OK)
		for range 5 {
			wantErr(t, "Write", d.Write(0, sector('A')), api.OK)
		}
	}
	for _, first := range []int{0, 9, -1, math.MaxInt} {
		d := newDisk(t, 1)
		wantErr(t, "Arm", d.Arm(first), api.OK)
		wantErr(t, "Arm", d.Arm(2), api.OK)
		wantErr(t, "Write", d.Write(0, sector('A')), api.OK)
		wantErr(t, "Write", d.Write(0, sector('A')), api.OK)
		wantErr(t, "Write", d.Write(0, sector('A')), api.ErrPower)
	}
	d := newDisk(t, 1)
	wantErr(t, "Arm", d.Arm(math.MaxInt), api.OK)
	for range 5 {
		wantErr(t, "Write", d.Write(0, sector('A')), api.OK)
	}
}

// P1.8
func TestDead(t *testing.T) {
	d := deadDisk(t)
	if !d.Dead() {
		t.Fatal("Dead = false")
	}
	for _, at := range []int{0, 1, 2, -1, math.MaxInt, math.MinInt} {
		if b, e := d.Read(at); len(b) != 0 || e != api.ErrPower {
			t.Fatalf("Read(%d) = %x, %d", at, b, e)
		}
		wantErr(t, "Write", d.Write(at, sector('X')), api.ErrPower)
		wantErr(t, "Write", d.Write(at, nil), api.ErrPower)
		wantErr(t, "Arm", d.Arm(at), api.ErrPower)
	}
	wantErr(t, "Flush", d.Flush(), api.ErrPower)
	if !d.Dead() {
		t.Fatal("a dead disk came back")
	}
	if n, z := d.Shape(); n != 2 || z != size {
		t.Fatalf("Shape = %d, %d", n, z)
	}
	wantPending(t, d, 0, 'B', 1, 'C')
	wantImage(t, d, 'A', 0)
	wantStats(t, d, 0, 2, 1)
	wantImage(t, d.Survive([]bool{true, true}), 'B', 'C')
}

// P1.9: to ask changes nothing.
func TestPendingAndImage(t *testing.T) {
	d := newDisk(t, 2)
	wantPending(t, d)
	wantImage(t, d, 0, 0)
	wantErr(t, "Write", d.Write(1, sector('A')), api.OK)
	wantErr(t, "Flush", d.Flush(), api.OK)
	wantErr(t, "Write", d.Write(1, sector('B')), api.OK)
	wantErr(t, "Write", d.Write(0, sector('C')), api.OK)
	for range 3 {
		wantPending(t, d, 1, 'B', 0, 'C')
		wantImage(t, d, 0, 'A')
		wantStats(t, d, 0, 3, 1)
	}
	wantErr(t, "Flush", d.Flush(), api.OK)
	wantPending(t, d)
	wantImage(t, d, 'C', 'B')
}

// P1.10
func TestSurvive(t *testing.T) {
	for _, c := range []struct {
		keep []bool
		want []byte
	}{
		{nil, []byte{'Z', 0, 0}},
		{[]bool{}, []byte{'Z', 0, 0}},
		{[]bool{false, false, false}, []byte{'Z', 0, 0}},
		{[]bool{true}, []byte{'Z', 'A', 0}},
		{[]bool{false, true}, []byte{'Z', 0, 'B'}},
		{[]bool{false, false, true}, []byte{'Z', 'C', 0}},
		{[]bool{true, false, true}, []byte{'Z', 'C', 0}},
		{[]bool{true, true, false}, []byte{'Z', 'A', 'B'}},
		{[]bool{true, true, true}, []byte{'Z', 'C', 'B'}},
		{[]bool{false, false, false, true, true}, []byte{'Z', 0, 0}},
		{[]bool{true, false, false, true}, []byte{'Z', 'A', 0}},
	} {
		for _, dead := range []bool{false, true} {
			d := survivable(t, dead)
			for range 2 {
				s := d.Survive(c.keep)
				wantImage(t, s, c.want...)
				if n, z := s.Shape(); n != 3 || z != size {
					t.Fatalf("Shape = %d, %d", n, z)
				}
				wantFresh(t, s)
			}
			wantPending(t, d, 1, 'A', 2, 'B', 1, 'C')
			wantImage(t, d, 'Z', 0, 0)
			if d.Dead() != dead {
				t.Fatalf("Survive changed the power: Dead = %v", d.Dead())
			}
		}
	}
}

// survivable: 'Z' durable in sector 0, waiting are 'A' in 1, 'B' in 2, 'C' in 1; armed, and dead if so asked.
func survivable(t *testing.T, dead bool) *disk.Disk {
	t.Helper()
	d := newDisk(t, 3)
	wantErr(t, "Write", d.Write(0, sector('Z')), api.OK)
	wantErr(t, "Flush", d.Flush(), api.OK)
	left, last := 3, api.OK
	if dead {
		left, last = 2, api.ErrPower
	}
	wantErr(t, "Arm", d.Arm(left), api.OK)
	wantErr(t, "Write", d.Write(1, sector('A')), api.OK)
	wantErr(t, "Write", d.Write(2, sector('B')), api.OK)
	wantErr(t, "Write", d.Write(1, sector('C')), last)
	return d
}

// P1.10: of a survivor another one.
func TestSurviveAgain(t *testing.T) {
	d := deadDisk(t)
	s := d.Survive([]bool{false, true})
	wantErr(t, "Write", s.Write(0, sector('D')), api.OK)
	wantErr(t, "Arm", s.Arm(0), api.OK)
	wantErr(t, "Write", s.Write(1, sector('E')), api.ErrPower)
	wantImage(t, s.Survive([]bool{true}), 'D', 'C')
	wantImage(t, s.Survive([]bool{false, true}), 'A', 'E')
	wantImage(t, d.Survive([]bool{true}), 'B', 0)
}

// P1.11
func TestStats(t *testing.T) {
	d := newDisk(t, 2)
	wantStats(t, d, 0, 0, 0)
	d.Read(0)
	d.Read(1)
	d.Read(2)
	d.Read(-1)
	wantStats(t, d, 2, 0, 0)
	d.Write(0, sector('A'))
	d.Write(0, sector('B'))
	d.Write(0, sector('B'))
	d.Write(2, sector('B'))
	d.Write(0, nil)
	wantStats(t, d, 2, 3, 0)
	d.Flush()
	d.Flush()
	wantStats(t, d, 2, 3, 2)
	d.Shape()
	d.Pending()
	d.Image()
	d.Survive(nil)
	d.Dead()
	d.Stats()
	d.Arm(1)
	wantStats(t, d, 2, 3, 2)
	d.Write(0, sector('C'))
	d.Write(0, sector('D'))
	wantStats(t, d, 2, 4, 2)
	d.Write(0, sector('E'))
	d.Read(0)
	d.Flush()
	wantStats(t, d, 2, 4, 2)
}

// R3, P1.3 to P1.11
func TestNilDisk(t *testing.T) {
	var d *disk.Disk
	if n, z := d.Shape(); n != 0 || z != 0 {
		t.Errorf("Shape = %d, %d", n, z)
	}
	for _, at := range []int{0, -1, math.MaxInt} {
		if b, e := d.Read(at); len(b) != 0 || e != api.ErrArg {
			t.Errorf("Read = %x, %d", b, e)
		}
		wantErr(t, "Write", d.Write(at, sector('A')), api.ErrArg)
		wantErr(t, "Write", d.Write(at, nil), api.ErrArg)
		wantErr(t, "Arm", d.Arm(at), api.ErrArg)
	}
	wantErr(t, "Flush", d.Flush(), api.ErrArg)
	if d.Dead() {
		t.Error("Dead = true")
	}
	wantPending(t, d)
	if s := d.Survive([]bool{true}); s != nil {
		t.Errorf("Survive = %v", s)
	}
	wantImage(t, d)
	wantStats(t, d, 0, 0, 0)
}
