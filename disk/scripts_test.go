package disk_test

import (
	"bytes"
	"testing"

	"arbor/api"
	"arbor/disk"
)

// book: what the chapter says of a disk of two sectors, told plainly: a byte stands for the sector that it fills.
type book struct {
	firm  [2]byte
	at    []int
	with  []byte
	left  int
	dead  bool
	count api.DiskStats
}

func (b *book) held(at int) byte {
	held := b.firm[at]
	for j, a := range b.at {
		if a == at {
			held = b.with[j]
		}
	}
	return held
}

func (b *book) survivor(keep []bool) [2]byte {
	firm := b.firm
	for j, k := range keep {
		if k && j < len(b.at) {
			firm[b.at[j]] = b.with[j]
		}
	}
	return firm
}

func (b *book) write(at int, with byte) api.Errno {
	if b.dead {
		return api.ErrPower
	}
	b.at, b.with = append(b.at, at), append(b.with, with)
	if b.left == 0 {
		b.dead = true
		return api.ErrPower
	}
	b.left--
	b.count.Writes++
	return api.OK
}

func (b *book) flush() api.Errno {
	if b.dead {
		return api.ErrPower
	}
	b.firm = [2]byte{b.held(0), b.held(1)}
	b.at, b.with = nil, nil
	b.count.Flushes++
	return api.OK
}

func (b *book) arm(writes int) api.Errno {
	if b.dead {
		return api.ErrPower
	}
	b.left = writes
	return api.OK
}

// play: one step of a script on the disk and in the book.
func play(d *disk.Disk, b *book, step int, with byte) (got, want api.Errno) {
	switch step {
	case 0, 1:
		return d.Write(step, sector(with)), b.write(step, with)
	case 2:
		return d.Flush(), b.flush()
	case 3, 4, 5:
		return d.Arm(step - 4), b.arm(step - 4)
	}
	return d.Write(0, sector(with)[:size-1]), map[bool]api.Errno{false: api.ErrSize, true: api.ErrPower}[b.dead]
}

// compare: every answer of the disk against the book's.
func compare(t *testing.T, script []int, d *disk.Disk, b *book) {
	t.Helper()
	if d.Dead() != b.dead {
		t.Fatalf("%v: Dead = %v", script, d.Dead())
	}
	wantImage(t, d, b.firm[0], b.firm[1])
	var pairs []int
	for j, at := range b.at {
		pairs = append(pairs, at, int(b.with[j]))
	}
	wantPending(t, d, pairs...)
	for at := range 2 {
		got, e := d.Read(at)
		if b.dead && (e != api.ErrPower || len(got) != 0) {
			t.Fatalf("%v: Read(%d) of a dead disk = %x, %d", script, at, got, e)
		}
		if !b.dead && (e != api.OK || !bytes.Equal(got, sector(b.held(at)))) {
			t.Fatalf("%v: Read(%d) = %x, %d, want %x", script, at, got, e, b.held(at))
		}
		if !b.dead {
			b.count.Reads++
		}
	}
	if d.Stats() != b.count {
		t.Fatalf("%v: Stats = %v, want %v", script, d.Stats(), b.count)
	}
	for mask := range 1 << (len(b.at) + 1) {
		keep := make([]bool, len(b.at)+1)
		for j := range keep {
			keep[j] = mask>>j&1 == 1
		}
		firm := b.survivor(keep)
		wantImage(t, d.Survive(keep), firm[0], firm[1])
	}
}

// TestEveryScript: every script of up to five steps, looked at behind its last one, with every choice of survivors.
func TestEveryScript(t *testing.T) {
	const steps, longest = 7, 5
	total := 1
	for length := range longest + 1 {
		for number := range total {
			d, b := newDisk(t, 2), &book{left: -1}
			script := make([]int, length)
			for i, rest := 0, number; i < length; i, rest = i+1, rest/steps {
				script[i] = rest % steps
				if got, want := play(d, b, script[i], byte('a'+i)); got != want {
					t.Fatalf("%v: step %d = %d, want %d", script, i, got, want)
				}
			}
			compare(t, script, d, b)
		}
		total *= steps
	}
}
