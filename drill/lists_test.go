package drill_test

import (
	"slices"
	"testing"

	"arbor/drill"
)

// Whoever changes a place of a list, or writes behind it, is found out; who does to it what he likes elsewhere is not.
func TestListsTellWhatWasDoneToThem(t *testing.T) {
	list := []int{1, 2, 3}
	for length := range 4 {
		given := drill.Roomy(list[:length], 77)
		if !drill.AsItWas(given, list[:length], 77) || drill.Shares(given, list) {
			t.Errorf("%d places: %v", length, given)
		}
		_ = append(slices.Clone(given), 5)
		if !drill.AsItWas(given, list[:length], 77) {
			t.Errorf("%d places: a change of a copy is told", length)
		}
		_ = append(given, 5)
		if drill.AsItWas(given, list[:length], 77) {
			t.Errorf("%d places: what was written behind them is not told", length)
		}
		for i := range length {
			given := drill.Roomy(list[:length], 77)
			given[i]++
			if drill.AsItWas(given, list[:length], 77) {
				t.Errorf("%d places: a change at %d is not told", length, i)
			}
		}
	}
}

// Two lists share, if one has a place of the other, be it only in the room behind it.
func TestSharedPlacesAreTold(t *testing.T) {
	list := make([]int, 6)
	if !drill.Shares(list[:3], list[2:]) || !drill.Shares(list[:1], list[3:]) || !drill.Shares(list[:0], list[5:]) {
		t.Error("a shared place is not told")
	}
	if drill.Shares(list[:3:3], list[3:]) || drill.Shares(list, nil) || drill.Shares(list, slices.Clone(list)) {
		t.Error("a place is told that is not shared")
	}
	if !drill.AnyTwoShare([][]int{{1}, list[:3], nil, list[5:]}) || drill.AnyTwoShare([][]int{{1}, list[:3:3], nil, list[3:]}) || drill.AnyTwoShare[int](nil) {
		t.Error("of several lists it is told wrongly which share")
	}
}

func TestOverwriteReachesTheRoomBehind(t *testing.T) {
	list := []int{1, 2, 3, 4}
	drill.Overwrite(list[1:2:3], 9)
	if !slices.Equal(list, []int{1, 9, 9, 4}) {
		t.Errorf("it became %v", list)
	}
	drill.Overwrite(list[:0], 8)
	if !slices.Equal(list, []int{8, 8, 8, 8}) {
		t.Errorf("it became %v", list)
	}
}
