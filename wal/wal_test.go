package wal_test

import (
	"bytes"
	"math"
	"slices"
	"strings"
	"testing"

	"arbor/api"
	"arbor/disk"
	"arbor/wal"
)

// example: where the chapter's log lies, on a disk of 8 sectors of 32 bytes.
var example = place{first: 2, count: 3, epoch: 7}

func newDisk(t *testing.T, sectors, size int) *disk.Disk {
	t.Helper()
	d, e := disk.New(sectors, size)
	if e != api.OK {
		t.Fatalf("a disk of %d sectors of %d bytes: %d", sectors, size, e)
	}
	return d
}

func kill(t *testing.T, d *disk.Disk) {
	t.Helper()
	sectors, size := d.Shape()
	d.Arm(0)
	if e := d.Write(sectors-1, make([]byte, size)); e != api.ErrPower {
		t.Fatalf("the power doesn't go: %d", e)
	}
}

func started(t *testing.T, d *disk.Disk, at place) *wal.Log {
	t.Helper()
	l, e := wal.Start(d, at.first, at.count, at.epoch)
	if l == nil || e != api.OK {
		t.Fatalf("Start(.., %v) = %v, %d", at, l, e)
	}
	return l
}

// wantAppend: the answer, what is left behind it, and how many sectors were written.
func wantAppend(t *testing.T, d *disk.Disk, l *wal.Log, rec string, want api.Errno, left, writes int) {
	t.Helper()
	was := d.Stats()
	if e := l.Append([]byte(rec)); e != want {
		t.Fatalf("Append(%d bytes) = %d, want %d", len(rec), e, want)
	}
	if l.Left() != left {
		t.Errorf("behind Append(%d bytes): Left %d, want %d", len(rec), l.Left(), left)
	}
	was.Writes += writes
	if now := d.Stats(); now != was {
		t.Errorf("Append(%d bytes): the disk was asked %v, want %v", len(rec), now, was)
	}
}

func replayed(t *testing.T, d *disk.Disk, at place) []string {
	t.Helper()
	list, e := wal.Replay(d, at.first, at.count, at.epoch)
	if e != api.OK {
		t.Fatalf("Replay(.., %v) = %d", at, e)
	}
	return texts(list)
}

func texts(list [][]byte) []string {
	out := []string{}
	for _, rec := range list {
		out = append(out, string(rec))
	}
	return out
}

// wantReplay: the records, and how many sectors are read for them.
func wantReplay(t *testing.T, d *disk.Disk, at place, reads int, want ...string) {
	t.Helper()
	was := d.Stats()
	got := replayed(t, d, at)
	if !slices.Equal(got, want) {
		t.Errorf("Replay(.., %v) = %q, want %q", at, got, want)
	}
	was.Reads += reads
	if now := d.Stats(); now != was {
		t.Errorf("Replay(.., %v): the disk was asked %v, want %v", at, now, was)
	}
}

func wantNoLog(t *testing.T, d *disk.Disk, first, count int) {
	t.Helper()
	was := d.Stats()
	if l, e := wal.Start(d, first, count, 7); l != nil || e != api.ErrArg {
		t.Errorf("Start(.., %d, %d) = %v, %d, want ErrArg", first, count, l, e)
	}
	if list, e := wal.Replay(d, first, count, 7); len(list) != 0 || e != api.ErrArg {
		t.Errorf("Replay(.., %d, %d) = %q, %d, want ErrArg", first, count, list, e)
	}
	for n, rec := range wal.Records(d, first, count, 7) {
		t.Errorf("Records(.., %d, %d) gives %d, %q", first, count, n, rec)
	}
	if d.Stats() != was {
		t.Errorf("first %d, count %d: the disk was asked", first, count)
	}
}

// P5.1, P5.5, P5.6: where no log can lie, nothing is started and nothing read.
func TestWhereNoLogLies(t *testing.T) {
	for _, sectors := range []int{1, 8, 64, 70} {
		d := newDisk(t, sectors, 32)
		for _, first := range []int{math.MinInt, -64, -1, 0, 1, 5, sectors - 64, sectors - 1, sectors, sectors + 1, math.MaxInt - 1, math.MaxInt} {
			for _, count := range []int{math.MinInt, -1, 0, 1, 2, 3, 63, 64, 65, sectors, sectors + 1, math.MaxInt - 1, math.MaxInt} {
				if first >= 0 && first < sectors && count >= 1 && count <= 64 && first+count <= sectors {
					started(t, d, place{first, count, 7})
				} else {
					wantNoLog(t, d, first, count)
				}
			}
		}
		kill(t, d)
		wantNoLog(t, d, 0, sectors+1)
	}
	wantNoLog(t, nil, 0, 1)
	wantNoLog(t, nil, 0, 0)
}

// P5.1: nothing is asked of the disk, and it need not have power.
func TestStartAsksNothing(t *testing.T) {
	d := newDisk(t, 8, 32)
	l := started(t, d, place{0, 8, math.MaxUint64})
	if l.Count() != 0 || l.Left() != 8*15-2 {
		t.Errorf("a new log: Count %d, Left %d", l.Count(), l.Left())
	}
	if d.Stats() != (api.DiskStats{}) || len(d.Pending()) != 0 {
		t.Errorf("the disk was asked: %v, %v", d.Stats(), d.Pending())
	}
	kill(t, d)
	l = started(t, d, example)
	if l.Count() != 0 || l.Left() != 43 || len(d.Pending()) != 1 {
		t.Errorf("over a dead disk: Count %d, Left %d, %d writes", l.Count(), l.Left(), len(d.Pending()))
	}
}

// P5.1: a log begins without records, whatever the sectors hold.
func TestStartOverRecords(t *testing.T) {
	d := newDisk(t, 8, 32)
	old := started(t, d, example)
	wantAppend(t, d, old, "old", api.OK, 38, 1)
	l := started(t, d, example)
	if l.Count() != 0 || l.Left() != 43 {
		t.Errorf("a new log: Count %d, Left %d", l.Count(), l.Left())
	}
	wantReplay(t, d, example, 1, "old")
	wantAppend(t, d, l, "new!", api.OK, 37, 1)
	wantReplay(t, d, example, 1, "new!")
}

// P5.2, P5.4: the bounds of a record, in a log with room for it and in one without.
func TestAppendBounds(t *testing.T) {
	d := newDisk(t, 8, 1024)
	l := started(t, d, place{0, 4, 1})
	long := strings.Repeat("x", 1025)
	left := 4 * 1007
	for _, c := range []struct {
		length, writes int
		want           api.Errno
	}{
		{0, 0, api.ErrEntry}, {1025, 0, api.ErrEntry}, {1, 1, api.OK}, {1024, 2, api.OK}, {1024, 2, api.OK},
		{1005, 2, api.OK}, {965, 0, api.ErrLogFull}, {964, 1, api.OK}, {1, 0, api.ErrLogFull}, {1024, 0, api.ErrLogFull},
		{0, 0, api.ErrEntry}, {1025, 0, api.ErrEntry},
	} {
		if c.want == api.OK {
			left -= c.length + 2
		}
		wantAppend(t, d, l, long[:c.length], c.want, max(0, min(left-2, 1024)), c.writes)
	}
	if l.Count() != 5 {
		t.Errorf("Count %d", l.Count())
	}
	if e := l.Append(nil); e != api.ErrEntry {
		t.Errorf("Append(nil) = %d", e)
	}
	if e := l.Append(make([]byte, 1<<20)); e != api.ErrEntry {
		t.Errorf("Append(2^20 bytes) = %d", e)
	}
}

// P5.4: what Left says has room, and one byte more has none.
func TestLeftIsTheLongest(t *testing.T) {
	for used := 1; used <= 43; used++ {
		for _, more := range []int{0, 1} {
			d := newDisk(t, 8, 32)
			l := started(t, d, example)
			wantAppend(t, d, l, strings.Repeat("u", used), api.OK, max(0, 41-used), (used+2+14)/15)
			rec := make([]byte, l.Left()+more)
			want := api.OK
			if len(rec) == 0 {
				want = api.ErrEntry
			} else if more == 1 {
				want = api.ErrLogFull
			}
			if e := l.Append(rec); e != want {
				t.Errorf("behind %d bytes: Append(%d bytes) = %d, want %d", used, len(rec), e, want)
			}
		}
	}
}

// P5.2: a record that ends with its sector leaves that one alone later, and a full piece is not written anew.
func TestAppendAtTheSeam(t *testing.T) {
	d := newDisk(t, 8, 32)
	w := begin(t, d, example)
	for _, rec := range []string{"thirteen byte", "twelve bytes", "a", strings.Repeat("b", 10)} {
		w.append(rec)
		w.same()
	}
	if got := len(d.Pending()); got != 5 {
		t.Errorf("%d writes, want 5", got)
	}
}

// P5.2: refused appends change nothing, and what is refused by its length is so without power too.
func TestAppendWithoutPower(t *testing.T) {
	d := newDisk(t, 8, 32)
	w := begin(t, d, example)
	w.append("abc")
	w.sync()
	w.arm(1)
	w.append(strings.Repeat("x", 20))
	w.same()
	if !w.d.Dead() || w.l.Count() != 1 || w.l.Left() != 38 || len(d.Pending()) != 2 {
		t.Fatalf("the power went: Count %d, Left %d, Pending %v", w.l.Count(), w.l.Left(), d.Pending())
	}
	for _, c := range []struct {
		length int
		want   api.Errno
	}{{0, api.ErrEntry}, {1025, api.ErrEntry}, {39, api.ErrLogFull}, {38, api.ErrPower}, {1, api.ErrPower}} {
		if e := w.l.Append(make([]byte, c.length)); e != c.want {
			t.Errorf("without power: Append(%d bytes) = %d, want %d", c.length, e, c.want)
		}
		w.same()
	}
	if e := w.l.Sync(); e != api.ErrPower {
		t.Errorf("without power: Sync = %d", e)
	}
}

// P5.3: a flush and nothing else; also without records.
func TestSync(t *testing.T) {
	d := newDisk(t, 8, 32)
	l := started(t, d, example)
	for n := range 3 {
		if e := l.Sync(); e != api.OK {
			t.Errorf("Sync = %d", e)
		}
		if got := d.Stats(); got != (api.DiskStats{Flushes: n + 1}) {
			t.Errorf("the disk was asked %v", got)
		}
	}
	wantAppend(t, d, l, "abc", api.OK, 38, 1)
	image := d.Image()
	d.Write(0, bytes.Repeat([]byte{9}, 32))
	if e := l.Sync(); e != api.OK || len(d.Pending()) != 0 || bytes.Equal(d.Image(), image) || d.Image()[0] != 9 {
		t.Errorf("Sync = %d leaves %v", e, d.Pending())
	}
	if l.Count() != 1 || l.Left() != 38 {
		t.Errorf("Sync changed the log: Count %d, Left %d", l.Count(), l.Left())
	}
}

// P5.2, P5.3, P5.4 and R3.
func TestNilLog(t *testing.T) {
	var l *wal.Log
	for _, rec := range [][]byte{nil, []byte("a"), make([]byte, 1025)} {
		if e := l.Append(rec); e != api.ErrArg {
			t.Errorf("Append(%d bytes) of a nil log = %d", len(rec), e)
		}
	}
	if l.Sync() != api.ErrArg || l.Left() != 0 || l.Count() != 0 {
		t.Errorf("a nil log: Sync %d, Left %d, Count %d", l.Sync(), l.Left(), l.Count())
	}
}

// P5.7: two logs know nothing of one another, also over the same sectors.
func TestTwoLogs(t *testing.T) {
	d := newDisk(t, 8, 32)
	one, other := begin(t, d, place{0, 3, 7}), begin(t, d, place{3, 3, 7})
	one.append("one")
	other.append("other")
	one.append("one mor")
	other.append(strings.Repeat("o", 30))
	wantReplay(t, d, one.book.place, 1, one.book.records...)
	wantReplay(t, d, other.book.place, 3, other.book.records...)

	over := begin(t, d, place{0, 3, 8})
	over.append("over")
	wantReplay(t, d, one.book.place, 1)
	wantReplay(t, d, over.book.place, 1, "over")
	one.append("again")
	if one.l.Count() != 3 || over.l.Count() != 1 || over.l.Left() != 37 {
		t.Errorf("Count %d and %d, Left %d", one.l.Count(), over.l.Count(), over.l.Left())
	}
	wantReplay(t, d, one.book.place, 2, "one", "one mor", "again")
	wantReplay(t, d, over.book.place, 1)
}

// scribble: writes into each byte of a list and of its spare room.
func scribble(b []byte) {
	b = b[:cap(b)]
	for n := range b {
		b[n] = '#'
	}
}

// P5.7: the record that is handed in is neither kept nor changed, its spare room neither.
func TestTheRecordIsNotKept(t *testing.T) {
	d := newDisk(t, 8, 32)
	l := started(t, d, example)
	rec := []byte("abcdefgh.......................")
	for n := 3; n <= 8; n += 5 {
		if e := l.Append(rec[:n]); e != api.OK {
			t.Fatalf("Append = %d", e)
		}
		if string(rec) != "abcdefgh......................." {
			t.Fatalf("Append changed its record: %q", rec)
		}
	}
	scribble(rec)
	wantAppend(t, d, l, "z", api.OK, 25, 1)
	wantReplay(t, d, example, 2, "abc", "abcdefgh", "z")
}

// P5.7: records that are given are memory of their own, their spare room too.
func TestRecordsAreNew(t *testing.T) {
	d := newDisk(t, 8, 32)
	w := begin(t, d, example)
	for _, rec := range []string{"abc", "d", "efghijklmnopq", "rstu"} {
		w.append(rec)
	}
	for spoilt := range w.book.records {
		list, _ := wal.Replay(d, 2, 3, 7)
		scribble(list[spoilt])
		for n, rec := range list {
			if n != spoilt && string(rec) != w.book.records[n] {
				t.Errorf("record %d shares memory with record %d", spoilt, n)
			}
		}
		wantReplay(t, d, example, 2, w.book.records...)
	}
	n := 0
	for k, rec := range wal.Records(d, 2, 3, 7) {
		if k != n || string(rec) != w.book.records[n] {
			t.Errorf("record %d, %q, where those ahead of it were written into", k, rec)
		}
		scribble(rec)
		n++
	}
	w.append("v")
	wantReplay(t, d, example, 3, w.book.records...)
}
