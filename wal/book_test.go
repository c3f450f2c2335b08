package wal_test

import (
	"bytes"
	"slices"
	"strings"
	"testing"

	"arbor/api"
	"arbor/disk"
	"arbor/frame"
	"arbor/wal"
)

// place: where a log lies, and its epoch.
type place struct {
	first, count int
	epoch        uint64
}

// book: what the chapter says of a log and of its disk, told plainly: the records that count, their stream, and every write with its bytes.
type book struct {
	place
	size    int
	records []string
	stream  string
	waiting []api.Write
	synced  int
	doubt   string // the record in whose Append the power went
	armed   int    // writes that go well still; below 0: all
	dead    bool
	stats   api.DiskStats
}

func (b *book) room() int {
	return b.size - 17
}

// piece: the k-th one of a stream.
func (b *book) piece(stream string, k int) string {
	from := min(k*b.room(), len(stream))
	return stream[from:min(from+b.room(), len(stream))]
}

func (b *book) append(rec string) api.Errno {
	if len(rec) == 0 || len(rec) > 1024 {
		return api.ErrEntry
	}
	stream := b.stream + string([]byte{byte(len(rec)), byte(len(rec) >> 8)}) + rec
	if len(stream) > b.count*b.room() {
		return api.ErrLogFull
	}
	for k := range b.count {
		if len(b.piece(stream, k)) == len(b.piece(b.stream, k)) {
			continue
		}
		if b.dead {
			return api.ErrPower
		}
		if b.write(k, b.piece(stream, k)); b.dead {
			b.doubt = rec
			return api.ErrPower
		}
	}
	b.stream = stream
	b.records = append(b.records, rec)
	return api.OK
}

func (b *book) write(k int, piece string) {
	b.waiting = append(b.waiting, api.Write{At: b.first + k, Bytes: sector(b.size, b.epoch, k, piece)})
	if b.armed == 0 {
		b.dead = true
		return
	}
	b.armed--
	b.stats.Writes++
}

func (b *book) sync() api.Errno {
	if b.dead {
		return api.ErrPower
	}
	b.waiting = nil
	b.synced = len(b.records)
	b.stats.Flushes++
	return api.OK
}

func (b *book) left() int {
	return max(0, min(1024, b.count*b.room()-len(b.stream)-2))
}

// sector: a log sector as the chapter lays it out.
func sector(size int, epoch uint64, k int, piece string) []byte {
	return sealed(size, api.KindLog, epoch, string([]byte{byte(k), byte(k >> 8)})+piece)
}

func sealed(size int, kind byte, epoch uint64, body string) []byte {
	b, e := frame.Seal(api.Frame{Kind: kind, Gen: epoch, Body: []byte(body)}, size)
	if e != api.OK {
		panic("no frame of " + body)
	}
	return b
}

// told: what Replay and Records answer over a disk with power, and how many sectors have been read ahead of each record and at the end.
type told struct {
	records []string
	reads   []int
	atEnd   int
}

// look: the read stream and how many sectors may be read for it, then its records, as the chapter says it.
func look(d *disk.Disk, at place) told {
	_, size := d.Shape()
	b := book{place: at, size: size}
	stream, limit := b.readStream(d.Survive(slices.Repeat([]bool{true}, len(d.Pending()))).Image())
	sectors := func(wanted int) int {
		return min((wanted+b.room()-1)/b.room(), limit)
	}
	var out told
	for from := 0; ; {
		wanted := from + 2
		if wanted > len(stream) {
			out.atEnd = sectors(wanted)
			return out
		}
		length := int(stream[from]) + 256*int(stream[from+1])
		if length >= 1 && length <= 1024 {
			wanted += length
		}
		if wanted == from+2 || wanted > len(stream) {
			out.atEnd = sectors(wanted)
			return out
		}
		out.records = append(out.records, stream[from+2:wanted])
		out.reads = append(out.reads, sectors(wanted))
		from = wanted
	}
}

func (b *book) readStream(image []byte) (string, int) {
	var stream strings.Builder
	for k := range b.count {
		at := (b.first + k) * b.size
		f, e := frame.Open(image[at : at+b.size])
		if e != api.OK || f.Kind != 'W' || f.Gen != b.epoch || len(f.Body) < 2 || int(f.Body[0])+256*int(f.Body[1]) != k {
			return stream.String(), k + 1
		}
		stream.Write(f.Body[2:])
		if len(f.Body)-2 < b.room() {
			return stream.String(), k + 1
		}
	}
	return stream.String(), b.count
}

// world: a log, its disk, and the book of both.
type world struct {
	t    *testing.T
	d    *disk.Disk
	l    *wal.Log
	book *book
}

func begin(t *testing.T, d *disk.Disk, at place) *world {
	t.Helper()
	_, size := d.Shape()
	return &world{t: t, d: d, l: started(t, d, at), book: &book{place: at, size: size, armed: -1, waiting: d.Pending(), stats: d.Stats()}}
}

func (w *world) append(rec string) {
	w.t.Helper()
	if got, want := w.l.Append([]byte(rec)), w.book.append(rec); got != want {
		w.t.Fatalf("Append(%d bytes) behind %d records = %d, want %d", len(rec), len(w.book.records), got, want)
	}
}

func (w *world) sync() {
	w.t.Helper()
	if got, want := w.l.Sync(), w.book.sync(); got != want {
		w.t.Fatalf("Sync = %d, want %d", got, want)
	}
}

func (w *world) arm(writes int) {
	w.t.Helper()
	if e := w.d.Arm(writes); e != api.OK {
		w.t.Fatalf("Arm(%d) = %d", writes, e)
	}
	w.book.armed = writes
}

// same: log and disk are as the book says.
func (w *world) same() {
	w.t.Helper()
	if w.l.Left() != w.book.left() || w.l.Count() != len(w.book.records) {
		w.t.Fatalf("Left %d, Count %d, want %d, %d", w.l.Left(), w.l.Count(), w.book.left(), len(w.book.records))
	}
	if got := w.d.Stats(); got != w.book.stats || w.d.Dead() != w.book.dead {
		w.t.Fatalf("the disk was asked %v, dead %v, want %v, %v", got, w.d.Dead(), w.book.stats, w.book.dead)
	}
	same := func(x, y api.Write) bool { return x.At == y.At && bytes.Equal(x.Bytes, y.Bytes) }
	if got := w.d.Pending(); !slices.EqualFunc(got, w.book.waiting, same) {
		w.t.Fatalf("these writes wait: %v\nwant %v", got, w.book.waiting)
	}
}

// survives: Replay over what survived gives some first records, all that were synced among them, or all and the one in doubt.
func (w *world) survives(keep []bool) {
	w.t.Helper()
	got := replayed(w.t, w.d.Survive(keep), w.book.place)
	all := w.book.records
	if w.book.doubt != "" {
		all = append(slices.Clone(all), w.book.doubt)
	}
	if len(got) < w.book.synced || len(got) > len(all) || !slices.Equal(got, all[:len(got)]) {
		w.t.Fatalf("with the survivors %v Replay = %q\nwhere %d of %q were synced, and %q is in doubt", keep, got, w.book.synced, w.book.records, w.book.doubt)
	}
}
