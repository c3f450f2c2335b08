package fresh_test

import (
	"slices"
	"testing"

	"arbor/api"
	"arbor/drill"
	"arbor/fresh"
)

func sample() api.Node {
	vals, code := []api.Value{{Kind: api.Int, N: 5}, {Kind: api.Bytes, S: "x"}}, []byte{api.INew, api.IDelete}
	return api.Node{
		Level:   -3,
		Entries: []api.Entry{{Key: "b", Vals: vals}, {Key: "a", Vals: vals}, {Key: ""}},
		Pivots:  []string{"z", "a"},
		Kids:    []int{7, -7, 7},
		Msgs:    []api.Message{{Kind: 9, Key: "k", Vals: vals, Code: code}, {Kind: 1, Vals: vals}, {Code: code}},
	}
}

func same(a, b api.Node) bool {
	entries := slices.EqualFunc(a.Entries, b.Entries, func(a, b api.Entry) bool { return a.Key == b.Key && slices.Equal(a.Vals, b.Vals) })
	return a.Level == b.Level && entries && slices.Equal(a.Pivots, b.Pivots) && slices.Equal(a.Kids, b.Kids) && slices.EqualFunc(a.Msgs, b.Msgs, drill.SameMessage)
}

// What is copied is the same, whatever stands in it, and nothing that is done to it is seen elsewhere, though the one that was copied shares lists within itself.
func TestCopiesAreTheSameAndShareNothing(t *testing.T) {
	n := sample()
	got := fresh.Node(n)
	if !same(got, n) {
		t.Fatalf("it is copied as %+v", got)
	}
	other := fresh.Node(n)
	lists := [][]api.Value{n.Entries[0].Vals}
	codes := [][]byte{n.Msgs[0].Code}
	for _, x := range []api.Node{got, other} {
		for _, e := range x.Entries {
			lists = append(lists, e.Vals)
		}
		for _, m := range x.Msgs {
			lists, codes = append(lists, m.Vals), append(codes, m.Code)
		}
		if drill.Shares(x.Entries, n.Entries) || drill.Shares(x.Pivots, n.Pivots) || drill.Shares(x.Kids, n.Kids) || drill.Shares(x.Msgs, n.Msgs) {
			t.Error("a list is that of the one that was copied")
		}
	}
	for i := range lists {
		for j := range i {
			if drill.Shares(lists[i], lists[j]) {
				t.Error("two records share memory")
			}
		}
	}
	for i := range codes {
		for j := range i {
			if drill.Shares(codes[i], codes[j]) {
				t.Error("two codes share memory")
			}
		}
	}
	if !same(n, sample()) {
		t.Errorf("the one that was copied became %+v", n)
	}
}

func TestCopiesOfNothing(t *testing.T) {
	if len(fresh.Messages(nil)) != 0 || len(fresh.Messages([]api.Message{})) != 0 || len(fresh.Entries(nil)) != 0 || !same(fresh.Node(api.Node{}), api.Node{}) {
		t.Error("of nothing something comes")
	}
}
