package wal_test

import (
	"slices"
	"strings"
	"testing"

	"arbor/api"
	"arbor/disk"
	"arbor/drill"
)

// play: a step is to append a record of so many bytes, of 0 to sync; seq makes the record unlike those ahead of it.
func (w *world) play(step, seq int) {
	w.t.Helper()
	if step == 0 {
		w.sync()
	} else {
		w.append(strings.Repeat(string(rune('a'+seq%26)), step))
	}
}

// used: a disk whose sectors hold the logs of earlier epochs.
func used(t *testing.T, sectors, size int, at place) *disk.Disk {
	t.Helper()
	d := newDisk(t, sectors, size)
	for old := range 3 {
		w := begin(t, d, place{at.first, at.count, at.epoch - 1 - uint64(old)})
		for range 2 - old {
			w.append(strings.Repeat("old", 7))
		}
		w.append("o")
		w.sync()
	}
	return d
}

// P5.2 to P5.5: every script of up to four steps; behind each step the disk has the writes that the chapter says.
func TestEveryShortScript(t *testing.T) {
	for length := range 5 {
		drill.Scripts([]int{0, 1, 5, 12, 13, 14, 28, 43}, length, func(script []int) {
			w := begin(t, used(t, 8, 32, example), example)
			for n, step := range script {
				w.play(step, n)
				w.same()
			}
			wantReplay(t, w.d, example, look(w.d, example).atEnd, w.book.records...)
		})
	}
}

// A crash leaves a prefix, and all that was synced: every script of up to four steps; the power goes with each write in turn, or not at all, and every choice of the waiting writes survives.
func TestEveryLossOfPower(t *testing.T) {
	for length := range 5 {
		drill.Scripts([]int{0, 1, 8, 13, 20}, length, func(script []int) {
			for arm, more := 0, true; more; arm++ {
				w := begin(t, used(t, 8, 32, example), example)
				w.arm(arm)
				for n, step := range script {
					w.play(step, n)
				}
				w.same()
				drill.Keeps(len(w.book.waiting), w.survives)
				more = w.book.dead
			}
		})
	}
}

// The same for long logs of sectors of many sizes.
func TestLongLogs(t *testing.T) {
	numbers := drill.Numbers(3)
	for _, size := range []int{32, 40, 100, 1024} {
		for _, count := range []int{1, 2, 7, 64} {
			for range 12 {
				longLog(t, &numbers, size, count)
			}
		}
	}
}

func longLog(t *testing.T, numbers *drill.Numbers, size, count int) {
	t.Helper()
	at := place{first: numbers.Below(4), count: count, epoch: 1<<63 + uint64(numbers.Below(1000))}
	w := begin(t, used(t, 70, size, at), at)
	longest := min(1024, 1+w.l.Left()/(1+numbers.Below(20)))
	for seq := range 60 {
		if numbers.Below(40) == 0 && !w.book.dead {
			w.arm(numbers.Below(6))
		}
		w.play(numbers.Below(longest+2), seq)
		w.same()
		w.survives(numbers.Keep(len(w.book.waiting)))
	}
	if !w.book.dead {
		wantReplay(t, w.d, at, look(w.d, at).atEnd, w.book.records...)
		wantReplay(t, w.d, place{at.first, at.count, at.epoch + 1}, 1)
	}
}

// P5.4: a log that is filled record by record to its last byte.
func TestFilledLogs(t *testing.T) {
	for _, size := range []int{32, 33, 1024} {
		for _, count := range []int{1, 2, 3, 64} {
			for _, length := range []int{1, 7, 13, 15, 1024} {
				at := place{first: 1, count: count, epoch: 1}
				w := begin(t, newDisk(t, 70, size), at)
				for w.l.Left() > 0 {
					w.append(strings.Repeat("f", min(length, w.l.Left())))
				}
				w.append("f")
				w.same()
				wantReplay(t, w.d, at, look(w.d, at).atEnd, w.book.records...)
			}
		}
	}
}

// Epochs don't mix: behind any number of logs over the same sectors just the last one's records are there.
func TestEpochsDontMix(t *testing.T) {
	d := newDisk(t, 8, 32)
	numbers := drill.Numbers(11)
	for epoch := range uint64(200) {
		w := begin(t, d, place{2, 3, epoch})
		for range numbers.Below(4) {
			w.append(strings.Repeat(string(rune('a'+epoch%26)), 1+numbers.Below(20)))
		}
		for other := range epoch + 5 {
			got := replayed(t, d, place{2, 3, other})
			if other > epoch && len(got) != 0 {
				t.Fatalf("epoch %d was never started and has %q", other, got)
			}
			for _, rec := range got {
				if rec[0] != byte('a'+other%26) {
					t.Fatalf("epoch %d has the record %q", other, rec)
				}
			}
		}
		if got := replayed(t, d, w.book.place); !slices.Equal(got, w.book.records) {
			t.Fatalf("epoch %d has %q, want %q", epoch, got, w.book.records)
		}
	}
}

// Damage is told: a run of up to 32 turned bits anywhere leaves some first records, those in the sectors ahead of it among them.
func TestDamageIsTold(t *testing.T) {
	d := newDisk(t, 8, 32)
	w := begin(t, d, example)
	for _, rec := range []string{"abc", "defgh", "ijklmnopqrstuv", "w", "xyz"} {
		w.append(rec)
	}
	w.sync()
	image := d.Image()
	ahead := []int{0, 1, 3} // records that lie in the sectors ahead of the sector 0, 1, 2
	for k, least := range ahead {
		for bit := range 32 * 8 {
			for length := 1; length <= min(32, 32*8-bit); length++ {
				got := replayed(t, damaged(t, image, (2+k)*32*8+bit, length), example)
				if len(got) < least || !slices.Equal(got, w.book.records[:len(got)]) {
					t.Fatalf("with %d bits turned from bit %d of sector %d on: %q", length, bit, 2+k, got)
				}
			}
		}
	}
}

// damaged: of a run of bits the first, the last and every third are turned.
func damaged(t *testing.T, image []byte, from, length int) *disk.Disk {
	t.Helper()
	b := slices.Clone(image)
	for n := range length {
		if n == length-1 || n%3 == 0 {
			b[(from+n)/8] ^= 1 << ((from + n) % 8)
		}
	}
	d, e := disk.FromImage(b, 32)
	if e != api.OK {
		t.Fatal(e)
	}
	return d
}
