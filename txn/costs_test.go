package txn_test

import (
	"bytes"
	"slices"
	"testing"

	"arbor/api"
	"arbor/disk"
	"arbor/drill"
	"arbor/txn"
)

// P21.1, P21.2, P21.4, P21.6 to P21.8: what asks the store nothing.
func TestWhatAsksNothing(t *testing.T) {
	numbers := drill.Numbers(541)
	for _, c := range drill.Measures()[:4] {
		base := durableDesk(t, c, &numbers, 20)
		k := deskOver(t, base.g, base.c, base.d, base.st, base.book.Now())
		f := drill.Fitting{Schema: k.s, Numbers: &numbers}
		refused, other := k.begin(), k.begin()
		k.ask(refused, getOf(k.s, drill.Key(0)))
		k.ask(refused, changeOf(k.s, f.Change(drill.Key(1))))
		k.ask(other, changeOf(k.s, f.Change(drill.Key(0))))
		k.ends(other, api.OK)
		stats, seq, waiting := k.d.Stats(), k.st.Seq(), len(k.d.Pending())
		m, _ := txn.New(k.st)
		m.Begin()
		m.Open()
		m.Commits()
		who, silent, given := k.begin(), k.begin(), k.begin()
		for number := range 4 {
			k.ask(who, changeOf(k.s, api.Change{Kind: api.MPut, Key: drill.Key(number)}))
			k.ask(who, changeOf(k.s, f.Change(drill.Key(number))))
			k.ask(who, getOf(k.s, drill.Key(number))) // it is settled
			k.ask(given, changeOf(k.s, f.Change(drill.Key(number))))
		}
		k.ask(who, changeOf(k.s, f.Change(drill.Key(5)))) // the ninth
		k.ask(silent, scanOf(k.s, "", "", 0))
		k.ask(silent, scanOf(k.s, "b", "a", 9))
		k.ends(silent, api.OK)
		k.ends(refused, api.ErrConflict)
		k.abort(given)
		if k.d.Stats() != stats || k.st.Seq() != seq || len(k.d.Pending()) != waiting {
			t.Errorf("%v: the disk was asked: %v, was %v", c, k.d.Stats(), stats)
		}
	}
}

// sameDisk: do two disks hold the same, and have the same writes and flushes been done to them; and reads, if nobody else saw the rows?
func sameDisk(a, b *disk.Disk, reads bool) bool {
	same := func(a, b api.Write) bool { return a.At == b.At && bytes.Equal(a.Bytes, b.Bytes) }
	x, y := a.Stats(), b.Stats()
	if !reads {
		x.Reads, y.Reads = 0, 0
	}
	return x == y && bytes.Equal(a.Image(), b.Image()) && slices.EqualFunc(a.Pending(), b.Pending(), same)
}

// P21.7, P21.10: a commit does to the disk just what one call of the store's Apply does; only those rows are read beside that which others see still.
func TestACommitIsOneCall(t *testing.T) {
	numbers := drill.Numbers(542)
	for i, c := range drill.Measures() {
		for _, others := range []int{0, 1, 7} {
			s := drill.Schemas()[i%2]
			g := drill.GeometryOf(c, 200)
			k, twin := newDesk(t, s, g, c), newDesk(t, s, g, c)
			f := drill.Fitting{Schema: s, Numbers: &numbers}
			for range 60 {
				for len(k.open) < others {
					k.begin()
				}
				who := k.begin()
				for range 1 + numbers.Below(8) {
					k.ask(who, changeOf(s, f.Change(drill.SomeKey(&numbers, 20))))
				}
				changes := who.book.Changes
				k.ends(who, api.OK)
				if e := twin.st.Apply(changes...); e != api.OK {
					t.Fatalf("Apply = %d", e)
				}
				if !sameDisk(k.d, twin.d, others == 0) || k.st.Seq() != twin.st.Seq() {
					t.Fatalf("%v, with %d others: behind a commit of %s the disk is another one", c, others, drill.ShownChanges(s, changes))
				}
				if others > 0 && numbers.Below(5) == 0 {
					k.abort(k.open[0])
				}
			}
		}
	}
}
