package drill_test

import (
	"slices"
	"testing"

	"arbor/drill"
)

func TestScriptsAreAllAndInOrder(t *testing.T) {
	var got []string
	drill.Scripts([]rune("ab"), 2, func(script []rune) { got = append(got, string(script)) })
	if want := []string{"aa", "ab", "ba", "bb"}; !slices.Equal(got, want) {
		t.Errorf("scripts of two steps = %q, want %q", got, want)
	}
	got = nil
	drill.Scripts([]rune("ab"), 0, func(script []rune) { got = append(got, string(script)) })
	if want := []string{""}; !slices.Equal(got, want) {
		t.Errorf("scripts without steps = %q, want %q", got, want)
	}
}

func TestKeepsAreAll(t *testing.T) {
	seen := map[[3]bool]int{}
	drill.Keeps(3, func(keep []bool) { seen[[3]bool(keep)]++ })
	if len(seen) != 8 {
		t.Errorf("%d choices of three writes", len(seen))
	}
}

func TestNumbersReachAll(t *testing.T) {
	numbers, again := drill.Numbers(7), drill.Numbers(7)
	seen := map[int]int{}
	for range 200 {
		n := numbers.Below(10)
		seen[n]++
		if n < 0 || n > 9 || n != again.Below(10) {
			t.Fatalf("Below(10) = %d", n)
		}
	}
	if len(seen) != 10 {
		t.Errorf("only %d of ten numbers came", len(seen))
	}
}

func TestKeepIsNoneSomeOrAll(t *testing.T) {
	numbers := drill.Numbers(7)
	none, some, all, longest := 0, 0, 0, 0
	for range 200 {
		keep := numbers.Keep(4)
		longest = max(longest, len(keep))
		switch {
		case !slices.Contains(keep, true):
			none++
		case slices.Contains(keep, false):
			some++
		default:
			all++
		}
	}
	if none == 0 || some == 0 || all == 0 || longest <= 4 {
		t.Errorf("%d choices kept nothing, %d some, %d all; the longest has %d", none, some, all, longest)
	}
}
