package replica_test

import (
	"bytes"
	"slices"
	"testing"

	"arbor/api"
	"arbor/drill"
	"arbor/replica"
)

var (
	spareValue  = api.Value{Kind: 77, N: 77, S: "spare"}
	spareChange = api.Change{Kind: 77, Key: "spare"}
)

// R5: changes that are handed in are not changed, and what becomes of them later is seen in no part.
func TestChangesAreNotKept(t *testing.T) {
	numbers := drill.Numbers(951)
	for _, s := range drill.Schemas() {
		l := newLead(t, s, exampleMeasures, 600, &numbers)
		for range 60 {
			cs := someChanges(l.f, 30, 8)
			if numbers.Below(4) == 0 {
				cs = append(cs, drill.Pick(&numbers, drill.WrongChanges(s)).Part)
			}
			var given []api.Change
			for _, c := range cs {
				c.Vals = drill.Roomy(c.Vals, spareValue)
				given = append(given, c)
			}
			given = append(given, spareChange)[:len(cs)]
			was := len(l.parts)
			if l.p.Apply(given...) == api.OK {
				l.Rows = drill.PlayChanges(s, l.Rows, cs...)
				l.past, l.parts = append(l.past, l.Rows), append(l.parts, bookPart(s, uint64(was+1), cs...))
			}
			for i, c := range cs {
				if given[i].Kind != c.Kind || given[i].Key != c.Key || given[i].Src != c.Src || !drill.AsItWas(given[i].Vals, c.Vals, spareValue) || given[:len(cs)+1][len(cs)].Kind != 77 {
					t.Fatalf("%s was changed", drill.ShownChange(s, c))
				}
				drill.Overwrite(given[i].Vals, spareValue)
			}
			drill.Overwrite(given, spareChange)
			l.given(uint64(was))
			holds(t, l.Store, l.Rows)
		}
	}
}

// R5: parts that are given share nothing with one another, with other answers, or with what is kept.
func TestPartsShareNothing(t *testing.T) {
	numbers := drill.Numbers(952)
	l := newLead(t, drill.Schemas()[0], exampleMeasures, 600, &numbers)
	l.some(20, 30)
	var all [][]byte
	for _, seq := range []uint64{0, 0, 5, 19} {
		all = append(all, l.given(seq)...)
	}
	if drill.AnyTwoShare(all) {
		t.Error("two parts share memory")
	}
	a, b := l.given(3), l.given(3)
	if drill.Shares(a, b) {
		t.Error("two lists of parts share memory")
	}
	for _, part := range all {
		drill.Overwrite(part, 77)
	}
	drill.Overwrite(a, nil)
	l.asksAll()
	l.trim(7)
	for _, part := range l.given(9) {
		drill.Overwrite(part, 77)
	}
	l.some(3, 30)
	l.asksAll()
	if !slices.EqualFunc(b, l.parts[3:20], bytes.Equal) {
		t.Error("a part that was given was changed")
	}
}

// R5: what is fed is not changed, nor kept.
func TestFeedKeepsNothing(t *testing.T) {
	numbers := drill.Numbers(953)
	for _, s := range drill.Schemas() {
		l, x := newLead(t, s, exampleMeasures, 600, &numbers), newTail(t, s, drill.Measures()[3], 600, 0)
		l.some(40, 30)
		parts := l.given(0)
		for _, number := range []int{0, 1, 1, 0, 2, 4, 3, 4} {
			for _, b := range [][]byte{drill.Turned(parts[number], 99, 5), parts[number][:20], parts[number]} {
				given := drill.Roomy(b, 77)
				x.feed(given)
				if !drill.AsItWas(given, b, 77) {
					t.Fatalf("%x was changed", b)
				}
				drill.Overwrite(given, 77)
				x.isBehind(l)
			}
		}
	}
}

// R5: the list of followers is not changed, nor kept; an answer is new memory.
func TestPumpKeepsNothing(t *testing.T) {
	l, x, y := exampleLead(t), exampleTail(t), exampleTail(t)
	l.doAll("put a {n=1}", "put b {n=2}")
	list := []*replica.Follower{x.f, nil, y.f, x.f}
	given := drill.Roomy(list, y.f)
	one := replica.Pump(l.p, given...)
	if !drill.AsItWas(given, list, y.f) {
		t.Error("the list was changed")
	}
	drill.Overwrite(given, nil)
	two := replica.Pump(l.p, list...)
	if drill.Shares(one, two) {
		t.Error("two answers share memory")
	}
	drill.Overwrite(one, 77)
	if want := []api.Errno{0, api.ErrArg, 0, 0}; !slices.Equal(two, want) || !slices.Equal(replica.Pump(l.p, list...), want) {
		t.Errorf("Pump = %v", two)
	}
}

// R1: bytes of any length.
func TestLongBytes(t *testing.T) {
	x := exampleTail(t)
	part := bookPart(x.Schema, 1, drill.ChangeOf(x.Schema, "put a {n=1}"))
	for _, b := range [][]byte{make([]byte, 1<<24), bytes.Repeat([]byte{'R'}, 1<<24), bytes.Repeat(part, 1<<16)} {
		x.wantFeed(b, api.ErrWire, 0)
	}
}
