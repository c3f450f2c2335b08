package wal_test

import (
	"bytes"
	"strings"
	"testing"

	"arbor/api"
	"arbor/disk"
	"arbor/wal"
)

var (
	twenty  = strings.Repeat("x", 20)
	sixteen = strings.Repeat("y", 16)
)

// behindStep3: the disk with two records.
func behindStep3(t *testing.T) (*disk.Disk, *wal.Log) {
	t.Helper()
	d := newDisk(t, 8, 32)
	l := started(t, d, example)
	wantAppend(t, d, l, "abc", api.OK, 38, 1)
	wantAppend(t, d, l, twenty, api.OK, 16, 2)
	return d, l
}

func wantWrite(t *testing.T, got api.Write, at int, want []byte) {
	t.Helper()
	if got.At != at || !bytes.Equal(got.Bytes, want) {
		t.Errorf("write of sector %d, % x\nwant %d, % x", got.At, got.Bytes, at, want)
	}
}

func TestExample1(t *testing.T) {
	d := newDisk(t, 8, 32)
	l := started(t, d, example)
	if l.Left() != 43 || l.Count() != 0 {
		t.Errorf("Left %d, Count %d", l.Left(), l.Count())
	}
	for _, c := range [][2]int{{6, 3}, {-1, 3}, {2, 0}, {0, 65}} {
		wantNoLog(t, d, c[0], c[1])
	}
}

func TestExamples2And3(t *testing.T) {
	d, l := behindStep3(t)
	if l.Count() != 2 {
		t.Errorf("Count %d", l.Count())
	}
	p := d.Pending()
	if len(p) != 3 {
		t.Fatalf("%d writes, want 3", len(p))
	}
	wantWrite(t, p[0], 2, sealed(32, 'W', 7, "\x00\x00\x03\x00abc"))
	wantWrite(t, p[1], 2, sealed(32, 'W', 7, "\x00\x00\x03\x00abc\x14\x00xxxxxxxx"))
	wantWrite(t, p[2], 3, sealed(32, 'W', 7, "\x01\x00xxxxxxxxxxxx"))
}

func behindStep4(t *testing.T) *disk.Disk {
	t.Helper()
	d, l := behindStep3(t)
	wantAppend(t, d, l, strings.Repeat("z", 17), api.ErrLogFull, 16, 0)
	wantAppend(t, d, l, "", api.ErrEntry, 16, 0)
	wantAppend(t, d, l, strings.Repeat("z", 1025), api.ErrEntry, 16, 0)
	wantAppend(t, d, l, sixteen, api.OK, 0, 2)
	wantAppend(t, d, l, "z", api.ErrLogFull, 0, 0)
	return d
}

func TestExample4(t *testing.T) {
	d := behindStep4(t)
	p := d.Pending()
	if len(p) != 5 {
		t.Fatalf("%d writes, want 5", len(p))
	}
	wantWrite(t, p[3], 3, sealed(32, 'W', 7, "\x01\x00xxxxxxxxxxxx\x10\x00y"))
	wantWrite(t, p[4], 4, sealed(32, 'W', 7, "\x02\x00yyyyyyyyyyyyyyy"))
	wantReplay(t, d, example, 3, "abc", twenty, sixteen)
}

func TestExample5(t *testing.T) {
	d, _ := behindStep3(t)
	wantReplay(t, d, example, 2, "abc", twenty)
	wantReplay(t, d, place{2, 3, 6}, 1)
	wantReplay(t, d, place{3, 3, 7}, 1)
}

func TestExamples6And7(t *testing.T) {
	d, _ := behindStep3(t)
	wantReplay(t, d.Survive([]bool{true, false, true}), example, 1, "abc")
	wantReplay(t, d.Survive([]bool{false, true}), example, 2, "abc")
}

func TestExample8(t *testing.T) {
	d := behindStep4(t)
	for n, rec := range wal.Records(d, 2, 3, 7) {
		if n != 0 || string(rec) != "abc" {
			t.Errorf("record %d is %q", n, rec)
		}
		break
	}
	if got := d.Stats().Reads; got != 1 {
		t.Errorf("%d sectors were read", got)
	}
}
