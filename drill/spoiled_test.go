package drill_test

import (
	"bytes"
	"testing"

	"arbor/drill"
)

// Spoiled bytes are those that were given but for the place that is named; these stay as they are.
func TestSpoiledBytes(t *testing.T) {
	numbers := drill.Numbers(11)
	b := []byte{5, 6, 7, 8}
	other := 0
	for range 200 {
		for at := range b {
			lists := numbers.Spoiled(b, at)
			for _, list := range lists {
				if !bytes.HasPrefix(list, b[:at]) || !bytes.HasSuffix(list, b[at+1:]) || drill.Shares(list, b) {
					t.Fatalf("place %d of %v spoiled: %v", at, b, list)
				}
			}
			if len(lists) != 3 || len(lists[0]) != 4 || len(lists[1]) != 3 || len(lists[2]) != 5 || lists[2][at+1] != b[at] {
				t.Fatalf("place %d of %v spoiled: %v", at, b, lists)
			}
			if lists[0][at] != b[at] {
				other++
			}
		}
	}
	if !bytes.Equal(b, []byte{5, 6, 7, 8}) || other < 700 {
		t.Errorf("%v: %d times another byte stood there", b, other)
	}
}
