package drill_test

import (
	"bytes"
	"math/bits"
	"testing"

	"arbor/drill"
)

// Spoiled bytes are those that were given but for the place that is named; these stay as they are.
func TestSpoiledBytes(t *testing.T) {
	numbers := drill.Numbers(11)
	b := []byte{5, 6, 7, 8}
	other := 0
	for range 200 {
		for at := range b {
			lists := numbers.Spoiled(b, at)
			for _, list := range lists {
				if !bytes.HasPrefix(list, b[:at]) || !bytes.HasSuffix(list, b[at+1:]) || drill.Shares(list, b) {
					t.Fatalf("place %d of %v spoiled: %v", at, b, list)
				}
			}
			if len(lists) != 3 || len(lists[0]) != 4 || len(lists[1]) != 3 || len(lists[2]) != 5 || lists[2][at+1] != b[at] {
				t.Fatalf("place %d of %v spoiled: %v", at, b, lists)
			}
			if lists[0][at] != b[at] {
				other++
			}
		}
	}
	if !bytes.Equal(b, []byte{5, 6, 7, 8}) || other < 700 {
		t.Errorf("%v: %d times another byte stood there", b, other)
	}
}

// Of turned bits the first one stands where it is said, those of the run alone are turned, and those that stand behind the bytes are none.
func TestTurnedBits(t *testing.T) {
	numbers := drill.Numbers(12)
	b := []byte{0, 255, 0, 170, 7}
	for range 50 {
		for from := range 8 * len(b) {
			for _, run := range numbers.Runs() {
				number, want := uint64(0), uint64(run)<<from&(1<<40-1)
				for place, c := range drill.Turned(b, from, run) {
					number |= uint64(c^b[place]) << (8 * place)
				}
				if number != want || bits.TrailingZeros64(number) != from {
					t.Fatalf("%#x from bit %d on: %#x turned", run, from, number)
				}
			}
		}
	}
	if !bytes.Equal(b, []byte{0, 255, 0, 170, 7}) || !bytes.Equal(drill.Turned(b, 40, 1), b) || !bytes.Equal(drill.Turned(b, 3, 0), b) || drill.Shares(drill.Turned(b, 0, 0), b) {
		t.Errorf("%v, with no bit turned %v", b, drill.Turned(b, 40, 1))
	}
}
