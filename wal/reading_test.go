package wal_test

import (
	"iter"
	"slices"
	"strings"
	"testing"

	"arbor/api"
	"arbor/disk"
	"arbor/drill"
	"arbor/wal"
)

// wantTold: Replay, Records and Records stopped at each record answer and read what the chapter says of what the disk holds.
func wantTold(t *testing.T, d *disk.Disk, at place) told {
	t.Helper()
	want := look(d, at)
	wantReplay(t, d, at, want.atEnd, want.records...)
	for stop := range len(want.records) + 1 {
		was := d.Stats()
		n := 0
		for k, rec := range wal.Records(d, at.first, at.count, at.epoch) {
			if n >= len(want.records) || k != n || string(rec) != want.records[n] || d.Stats().Reads-was.Reads != want.reads[n] {
				t.Fatalf("record %d is %d, %q, behind %d reads\nwant %v", n, k, rec, d.Stats().Reads-was.Reads, want)
			}
			if n == stop {
				break
			}
			n++
		}
		if stop == len(want.records) {
			was.Reads += want.atEnd
		} else {
			was.Reads += want.reads[stop]
		}
		if n != stop || d.Stats() != was {
			t.Fatalf("stopped at %d of %d records: the disk was asked %v, want %v", n, len(want.records), d.Stats(), was)
		}
	}
	return want
}

// P5.5, P5.6: what belongs and what does not, lengths that may not be, seams.
func TestForgedSectors(t *testing.T) {
	full := "\x0d\x00thirteen byte"
	for _, c := range []struct {
		name    string
		sectors [][]byte
		reads   int
		want    []string
	}{
		{"zeros", nil, 1, nil},
		{"one record", [][]byte{sector(32, 7, 0, "\x01\x00a")}, 1, []string{"a"}},
		{"an empty piece", [][]byte{sector(32, 7, 0, ""), sector(32, 7, 1, "\x01\x00a")}, 1, nil},
		{"an empty body", [][]byte{sealed(32, 'W', 7, "")}, 1, nil},
		{"a body of one byte", [][]byte{sealed(32, 'W', 7, "\x00")}, 1, nil},
		{"another kind", [][]byte{sealed(32, 'L', 7, "\x00\x00\x01\x00a")}, 1, nil},
		{"another epoch", [][]byte{sector(32, 7+1<<63, 0, "\x01\x00a")}, 1, nil},
		{"another place", [][]byte{sector(32, 7, 1, "\x01\x00a")}, 1, nil},
		{"another place by its high byte", [][]byte{sector(32, 7, 256, "\x01\x00a")}, 1, nil},
		{"a damaged sector", [][]byte{append([]byte("w"), sector(32, 7, 0, "\x01\x00a")[1:]...)}, 1, nil},
		{"a length of 0", [][]byte{sector(32, 7, 0, "\x01\x00a\x00\x00\x01\x00aaaaaaaa"), sector(32, 7, 1, "\x01\x00a")}, 1, []string{"a"}},
		{"a length of 1025", [][]byte{sector(32, 7, 0, "\x01\x00a\x01\x04aaaaaaaaaa"), sector(32, 7, 1, "\x01\x00a")}, 1, []string{"a"}},
		{"a length of 1024 is believed", [][]byte{sector(32, 7, 0, "\x01\x00a\x00\x04aaaaaaaaaa"), sector(32, 7, 1, full), sector(32, 7, 2, full)}, 3, []string{"a"}},
		{"a length of 1024, then no sector", [][]byte{sector(32, 7, 0, "\x01\x00a\x00\x04aaaaaaaaaa")}, 2, []string{"a"}},
		{"a length without bytes", [][]byte{sector(32, 7, 0, "\x01\x00a\x05\x00")}, 1, []string{"a"}},
		{"half a length", [][]byte{sector(32, 7, 0, "\x01\x00a\x05")}, 1, []string{"a"}},
		{"half a length at the seam", [][]byte{sector(32, 7, 0, "\x0c\x00twelve bytes\x01"), sector(32, 7, 1, "\x00b")}, 2, []string{"twelve bytes", "b"}},
		{"half a length, then no sector", [][]byte{sector(32, 7, 0, "\x0c\x00twelve bytes\x01")}, 2, []string{"twelve bytes"}},
		{"half a length, then one that may not be", [][]byte{sector(32, 7, 0, "\x0c\x00twelve bytes\x01"), sector(32, 7, 1, "\x04bbbbbbbbbbbbbb"), sector(32, 7, 2, full)}, 2, []string{"twelve bytes"}},
		{"a length at the seam", [][]byte{sector(32, 7, 0, "\x0b\x00eleven byte\x02\x00"), sector(32, 7, 1, "bb")}, 2, []string{"eleven byte", "bb"}},
		{"a record that ends with its sector", [][]byte{sector(32, 7, 0, full)}, 2, []string{full[2:]}},
		{"then one of another place", [][]byte{sector(32, 7, 0, full), sector(32, 7, 2, "\x01\x00a")}, 2, []string{full[2:]}},
		{"then a full one of another epoch", [][]byte{sector(32, 7, 0, full), sector(32, 6, 1, full), sector(32, 7, 2, full)}, 2, []string{full[2:]}},
		{"a piece that is not full ends it", [][]byte{sector(32, 7, 0, full), sector(32, 7, 1, "\x0c\x00twelve bytes"), sector(32, 7, 2, full)}, 2, []string{full[2:], "twelve bytes"}},
		{"no sector behind the last", [][]byte{sector(32, 7, 0, full), sector(32, 7, 1, full), sector(32, 7, 2, full), sector(32, 7, 3, full)}, 3, []string{full[2:], full[2:], full[2:]}},
		{"nothing is there of a record behind the last", [][]byte{sector(32, 7, 0, full), sector(32, 7, 1, full), sector(32, 7, 2, "\x0e"+full[1:]), sector(32, 7, 3, full)}, 3, []string{full[2:], full[2:]}},
	} {
		d := newDisk(t, 8, 32)
		for k, b := range c.sectors {
			d.Write(2+k, b)
		}
		t.Run(c.name, func(t *testing.T) {
			wantReplay(t, d, example, c.reads, c.want...)
			wantTold(t, d, example)
		})
	}
}

// streams: bytes that are mostly records, with lengths at every edge, and some that are not.
func streams(numbers *drill.Numbers, length int) string {
	var s strings.Builder
	for s.Len() < length {
		n := []int{1, 2, 5, 11, 12, 13, 14, 15, 28, 30, 43, 60, 300, 1023, 1024, 1025, 0, 65535}[numbers.Below(12+numbers.Below(7))]
		s.Write([]byte{byte(n), byte(n >> 8)})
		s.WriteString(strings.Repeat(string(rune('a'+numbers.Below(26))), n))
	}
	return s.String()[:length]
}

// forge: the sectors of a stream, here and there with something else in one's place.
func forge(t *testing.T, numbers *drill.Numbers, size int, at place) *disk.Disk {
	t.Helper()
	d := newDisk(t, at.first+at.count+1, size)
	b := book{place: at, size: size}
	stream := streams(numbers, numbers.Below((at.count+1)*b.room()))
	for k := range at.count + 1 {
		bytes := sector(size, at.epoch, k, b.piece(stream, k))
		switch numbers.Below(6 * (at.count + 1)) {
		case 0:
			bytes = make([]byte, size)
		case 1:
			bytes = sector(size, at.epoch^1<<uint(numbers.Below(64)), k, b.piece(stream, k))
		case 2:
			bytes = sector(size, at.epoch, k+1+numbers.Below(300), b.piece(stream, k))
		case 3:
			bytes = sector(size, at.epoch, k, b.piece(stream, k)[:len(b.piece(stream, k))/2])
		case 4:
			bytes = sealed(size, byte(numbers.Below(256)), at.epoch, string(rune(k))+"\x00"+b.piece(stream, k))
		case 5:
			bytes[numbers.Below(size)] ^= 1 << numbers.Below(8)
		}
		if e := d.Write(at.first+k, bytes); e != api.OK {
			t.Fatal(e)
		}
		if numbers.Below(3) == 0 {
			d.Flush()
		}
	}
	return d
}

// P5.5, P5.6: over many disks, each going through and each stopping gives what the chapter says and reads just so far.
func TestManyForgedDisks(t *testing.T) {
	numbers := drill.Numbers(5)
	seen := map[int]int{}
	for _, size := range []int{32, 33, 64, 1024} {
		for round := range 1500 {
			at := place{first: numbers.Below(3), count: 1 + numbers.Below(6), epoch: uint64(round) << numbers.Below(50)}
			if size == 32 && round%100 == 0 {
				at.count = 64
			}
			d := forge(t, &numbers, size, at)
			seen[len(wantTold(t, d, at).records)]++
			if t.Failed() {
				t.Fatalf("round %d with sectors of %d bytes", round, size)
			}
		}
	}
	if seen[0] == 0 || seen[1] == 0 || seen[5] == 0 || len(seen) < 15 {
		t.Errorf("the disks have too few records: %v", seen)
	}
}

// P5.5: what the disk refuses is answered, without records and without a read that counts.
func TestReplayWithoutPower(t *testing.T) {
	d, _ := behindStep3(t)
	kill(t, d)
	was := d.Stats()
	if list, e := wal.Replay(d, 2, 3, 7); len(list) != 0 || e != api.ErrPower {
		t.Errorf("Replay = %q, %d", list, e)
	}
	for n, rec := range wal.Records(d, 2, 3, 7) {
		t.Errorf("Records gives %d, %q", n, rec)
	}
	if d.Stats() != was {
		t.Errorf("the disk was asked %v, want %v", d.Stats(), was)
	}
}

// P5.6: when the power goes on the way, the records that have been read are given still.
func TestThePowerGoesOnTheWay(t *testing.T) {
	d := newDisk(t, 8, 32)
	w := begin(t, d, example)
	for _, rec := range []string{"one", "two", "3", "four", "five"} {
		w.append(rec)
	}
	var got []string
	for n, rec := range wal.Records(d, 2, 3, 7) {
		if n == 0 {
			kill(t, d)
		}
		got = append(got, string(rec))
	}
	if !slices.Equal(got, []string{"one", "two", "3"}) {
		t.Errorf("the records that were read: %q", got)
	}
}

// P5.6: to call Records reads nothing; each going through begins anew and reads what the disk holds then, also one inside another.
func TestEachGoingThroughBeginsAnew(t *testing.T) {
	d := newDisk(t, 8, 32)
	records := wal.Records(d, 2, 3, 7)
	w := begin(t, d, example)
	for _, rec := range []string{"one", "two two two two two", "three"} {
		if d.Stats().Reads != 0 {
			t.Fatal("Records itself reads")
		}
		w.append(rec)
	}
	whole := func() []string {
		var list []string
		for _, rec := range records {
			list = append(list, string(rec))
		}
		return list
	}
	if got := whole(); !slices.Equal(got, w.book.records) || d.Stats().Reads != 3 {
		t.Errorf("%q, %d reads", got, d.Stats().Reads)
	}
	for range records {
		if got := whole(); !slices.Equal(got, w.book.records) {
			t.Errorf("inside another: %q", got)
		}
	}
	if got := d.Stats().Reads; got != 3+3+3*3 {
		t.Errorf("%d reads", got)
	}
	begin(t, d, example).append("new")
	if got := whole(); !slices.Equal(got, []string{"new"}) {
		t.Errorf("behind another log: %q", got)
	}
}

// P5.6: a sector is read when a byte of it is wanted: what was written by then is what is given.
func TestSectorsAreReadLate(t *testing.T) {
	d := newDisk(t, 8, 32)
	w := begin(t, d, example)
	w.append("thirteen byte")
	next, stop := iter.Pull2(wal.Records(d, 2, 3, 7))
	defer stop()
	if n, rec, ok := next(); n != 0 || string(rec) != "thirteen byte" || !ok || d.Stats().Reads != 1 {
		t.Fatalf("the first record: %d, %q, %v, %d reads", n, rec, ok, d.Stats().Reads)
	}
	w.append("late")
	if n, rec, ok := next(); n != 1 || string(rec) != "late" || !ok || d.Stats().Reads != 2 {
		t.Fatalf("the second record: %d, %q, %v, %d reads", n, rec, ok, d.Stats().Reads)
	}
	w.append("later")
	if n, rec, ok := next(); ok || d.Stats().Reads != 2 {
		t.Fatalf("a third record: %d, %q, %d reads", n, rec, d.Stats().Reads)
	}
}
