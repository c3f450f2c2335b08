package drill

import "slices"

// Who changes a list that it was handed, writes into the room behind it, or hands out what it shares with another one, is found out by these.

// Roomy: the same list in other memory, with one more place behind it that is marked.
func Roomy[Part any](list []Part, mark Part) []Part {
	return append(slices.Clone(list), mark)[:len(list)]
}

// AsItWas: is what Roomy gave still the same as the list that it was given, and the mark behind it too?
func AsItWas[Part comparable](given, list []Part, mark Part) bool {
	return slices.Equal(given, list) && given[:len(given)+1][len(given)] == mark
}

// Shares: do two lists, with the room behind them, have a place in common?
func Shares[Part any](a, b []Part) bool {
	a, b = a[:cap(a)], b[:cap(b)]
	for i := range a {
		for j := range b {
			if &a[i] == &b[j] {
				return true
			}
		}
	}
	return false
}

// AnyTwoShare: do any two of some lists? (Of many lists they are too many to be held against each other.)
func AnyTwoShare[Part any](lists [][]Part) bool {
	met := map[*Part]int{}
	for _, list := range lists {
		list = list[:cap(list)]
		for i := range list {
			if met[&list[i]]++; met[&list[i]] > 1 {
				return true
			}
		}
	}
	return false
}

// Overwrite: every place of a list, the room behind it too.
func Overwrite[Part any](list []Part, with Part) {
	list = list[:cap(list)]
	for i := range list {
		list[i] = with
	}
}
