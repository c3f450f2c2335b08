package dump_test

import (
	"bytes"
	"slices"
	"testing"

	"arbor/api"
	"arbor/drill"
	"arbor/dump"
)

// some: the entries of a schema for so many keys, and their dump.
func some(numbers *drill.Numbers, s api.Schema, keys, size int) ([]api.Entry, []byte) {
	rows, f := map[string]api.Row{}, drill.Fitting{Schema: s, Numbers: numbers}
	for number := range keys {
		rows[drill.Key(number)] = api.Row{Here: true, Vals: f.Record()}
	}
	list := drill.EntriesOf(rows, "", "")
	return list, bookDump(s, 5, list, size)
}

// P22.3: the entries in their order; who stops early is given no more, wherever that is; each going through begins anew.
func TestEntries(t *testing.T) {
	numbers := drill.Numbers(631)
	for _, s := range drill.Schemas() {
		for _, size := range sizes() {
			list, b := some(&numbers, s, 60, size)
			all := dump.Entries(b, size)
			for stop := 1; stop <= len(list)+1; stop += 1 + stop/7 {
				var got []api.Entry
				all(func(key string, vals []api.Value) bool {
					got = append(got, api.Entry{Key: key, Vals: vals})
					return len(got) < stop
				})
				if want := list[:min(stop, len(list))]; !drill.SameEntries(got, want) {
					t.Fatalf("size %d, up to %d: %s, want %s", size, stop, drill.ShownEntries(s, got), drill.ShownEntries(s, want))
				}
			}
		}
	}
}

// P22.3: of a dump without entries, and of bytes that are no dump, nothing.
func TestEntriesOfNothing(t *testing.T) {
	b := bookDump(drill.SchemaOf("n:int"), 9, nil, 160)
	whole := laid(three(), 160)
	for _, b := range [][]byte{b, nil, {}, b[:160], b[160:], whole[:len(whole)-1], whole[:len(whole)-160], append(bytes.Clone(whole), 0), slices.Concat(whole, whole)} {
		dump.Entries(b, 160)(func(key string, vals []api.Value) bool {
			t.Errorf("of %d bytes: %q, %v", len(b), key, vals)
			return true
		})
	}
}

// P22.3: one may be gone through within another.
func TestEntriesWithinEntries(t *testing.T) {
	numbers := drill.Numbers(632)
	list, b := some(&numbers, drill.Schemas()[0], 12, 200)
	all, outer := dump.Entries(b, 200), 0
	for key := range all {
		inner := 0
		for other := range all {
			if other != list[inner].Key {
				t.Fatalf("within %q: %q, want %q", key, other, list[inner].Key)
			}
			if inner++; inner == 7 {
				break
			}
		}
		if key != list[outer].Key {
			t.Fatalf("%q, want %q", key, list[outer].Key)
		}
		outer++
	}
	if outer != len(list) {
		t.Errorf("%d entries, want %d", outer, len(list))
	}
}

// P22.3, R5: what becomes of the bytes behind the call, or while they are gone through, is not seen; nor is what becomes of what was given.
func TestEntriesAreNewMemory(t *testing.T) {
	numbers := drill.Numbers(633)
	spare := api.Value{Kind: 77, N: 77, S: "spare"}
	for _, s := range drill.Schemas() {
		list, b := some(&numbers, s, 40, 160)
		given := drill.Roomy(b, 77)
		all := dump.Entries(given, 160)
		clear(given)
		for range 2 {
			var got []api.Entry
			var lists [][]api.Value
			for key, vals := range all {
				got = append(got, api.Entry{Key: key, Vals: slices.Clone(vals)})
				lists = append(lists, vals)
				drill.Overwrite(vals, spare)
				drill.Overwrite(given, byte(len(got)))
			}
			if !drill.SameEntries(got, list) {
				t.Fatalf("%s, want %s", drill.ShownEntries(s, got), drill.ShownEntries(s, list))
			}
			if drill.AnyTwoShare(lists) {
				t.Fatal("two records share memory")
			}
		}
		given = drill.Roomy(b, 77)
		number := 0
		for key := range dump.Entries(given, 160) {
			clear(given)
			if key != list[number].Key {
				t.Fatalf("the bytes became zeros: %q, want %q", key, list[number].Key)
			}
			number++
		}
		if number != len(list) {
			t.Fatalf("the bytes became zeros: %d entries, want %d", number, len(list))
		}
	}
}
