package replica_test

import (
	"bytes"
	"fmt"
	"math"
	"slices"
	"testing"

	"arbor/api"
	"arbor/drill"
	"arbor/dump"
	"arbor/replica"
)

// P27.5, P27.6, P27.8, P27.9: what a follower takes, and what its store holds then.

// P27.5: the number of a follower, for every base.
func TestNumbersOfFollowers(t *testing.T) {
	numbers := drill.Numbers(931)
	for _, keys := range []int{0, 1, 9} {
		sh := drill.GrownShop(drill.Schemas()[1], exampleMeasures, &numbers, keys)
		for _, base := range []uint64{0, 1, 77, 1 << 63, math.MaxUint64 - 1, math.MaxUint64, -sh.Seq, 5 - sh.Seq} {
			if f := newFollower(t, sh.Store, base); f.Seq() != base+sh.Seq {
				t.Errorf("Seq = %d, of base %d and Seq %d", f.Seq(), base, sh.Seq)
			}
		}
	}
}

// P27.6: the next part is played, whatever the number; one more is a gap; none wraps round.
func TestNumbersOfParts(t *testing.T) {
	change := drill.ChangeOf(exampleSchema, "upsert a new; n += 1")
	for _, base := range []uint64{0, 1, 255, 1 << 32, 1 << 63, math.MaxUint64 - 1, math.MaxUint64} {
		x := newTail(t, exampleSchema, exampleMeasures, 60, base)
		for range 4 {
			seq := x.f.Seq()
			for _, number := range []uint64{seq, seq - 1, seq + 2, 0, 1, 1 << 62, 1<<63 - 1, 1<<63 + 1, math.MaxUint64, seq + 1} {
				if number != seq+1 || number == x.f.Seq()+1 {
					x.feed(bookPart(x.Schema, number, change))
				}
			}
			if want := seq + 1; x.f.Seq() != want && seq != math.MaxUint64 {
				t.Errorf("Seq = %d, want %d", x.f.Seq(), want)
			}
		}
	}
	// Behind the greatest number nothing comes.
	x := newTail(t, exampleSchema, exampleMeasures, 60, math.MaxUint64)
	for _, number := range []uint64{0, 1, math.MaxUint64} {
		x.wantFeed(bookPart(x.Schema, number, change), api.OK, math.MaxUint64)
	}
	x = newTail(t, exampleSchema, exampleMeasures, 60, math.MaxUint64-1)
	x.wantFeed(bookPart(x.Schema, math.MaxUint64, change), api.OK, math.MaxUint64)
	x.wantFeed(bookPart(x.Schema, 0, change), api.OK, math.MaxUint64)
}

// P27.6: the errors, in their order: no part, then passed over, then a gap, then what Apply says.
func TestErrorsOfFeed(t *testing.T) {
	for _, s := range drill.Schemas() {
		x := newTail(t, s, exampleMeasures, 60, 9)
		asked := 0
		for _, w := range drill.WrongChanges(s) {
			if c := w.Part; c.Kind < 1 || c.Kind > 3 || len(c.Key) > 255 || len(c.Src) > 8000 || w.Errno == api.ErrMessage || w.Errno == api.ErrValue || c.Kind == api.MPut && len(c.Vals) == 0 {
				continue // no bytes tell it, or they are no part
			}
			asked++
			good := drill.ChangeOf(s, "delete a")
			for _, cs := range [][]api.Change{{w.Part}, {good, w.Part}, {good, good, w.Part, good}} {
				x.wantFeed(bookPart(s, 9, cs...), api.OK, 9)
				x.wantFeed(bookPart(s, 11, cs...), api.ErrGap, 9)
				x.wantFeed(bookPart(s, 10, cs...), w.Errno, 9)
				for _, number := range []uint64{9, 10, 11} {
					x.wantFeed(drill.Turned(bookPart(s, number, cs...), 100, 1), api.ErrWire, 9)
				}
			}
		}
		if asked < 15 {
			t.Errorf("%d wrong changes were fed", asked)
		}
		x.wantFeed(bookPart(s, 10, drill.ChangeOf(s, "delete a")), api.OK, 10)
	}
}

// P27.6: of a store that is dead or read only: what is older is passed over still.
func TestFeedOfDeadAndFullStores(t *testing.T) {
	s := drill.Schemas()[0]
	change := drill.ChangeOf(s, "delete a")
	for _, want := range []api.Errno{api.ErrPower, api.ErrReadOnly} {
		numbers := drill.Numbers(932)
		f := drill.Fitting{Schema: s, Numbers: &numbers}
		x := newTail(t, s, exampleMeasures, 6, 0)
		x.feed(bookPart(s, 1, change))
		if want == api.ErrPower {
			drill.Kill(x.Disk)
			drill.Kill(x.twin.Disk)
		}
		for x.Store.Mode() == api.ModeOpen {
			x.feed(bookPart(s, x.f.Seq()+1, api.Change{Kind: api.MPut, Key: drill.Key(int(x.f.Seq())), Vals: f.Record()}))
		}
		seq := x.f.Seq()
		for range 2 {
			x.wantFeed(bookPart(s, seq+1, change), want, seq)
			x.wantFeed(bookPart(s, seq, change), api.OK, seq)
			x.wantFeed(bookPart(s, 0, change), api.OK, seq)
			x.wantFeed(bookPart(s, seq+2, change), api.ErrGap, seq)
			x.wantFeed(bookPart(s, seq+1), api.ErrWire, seq)
			x.wantFeed(bookPart(s, seq+1, drill.ChangeOf(s, "upsert a x")), want, seq)
		}
	}
}

// P27.8, P27.9, W11: parts that come in any order, twice, damaged or never: the follower holds at every time what the primary held. Then all that it lacks, in order.
func TestParts(t *testing.T) {
	numbers := drill.Numbers(933)
	played, gaps, old, none := 0, 0, 0, 0
	for i, c := range drill.Measures() {
		for _, s := range drill.Schemas() {
			l := leadOver(t, drill.GrownShop(s, c, &numbers, 3*i), &numbers)
			d := drill.Measures()[(3*i+1)%8]
			// What the primary held at first comes by a dump.
			x := loadedTail(t, l, d, 700)
			parts, at := [][]byte{}, l.seq()+1
			for range 150 {
				switch numbers.Below(6) {
				case 0:
					l.some(1, 40)
					parts = append(parts, l.given(l.seq()-1)...)
				case 1:
					if numbers.Below(3) == 0 {
						x.Store.Sync()
						x.twin.Store.Sync()
					}
				}
				if len(parts) == 0 {
					continue
				}
				part := drill.Pick(&numbers, parts)
				switch next := x.f.Seq() + 1 - at; {
				case numbers.Below(4) == 0 && next < uint64(len(parts)):
					part = parts[next]
				case numbers.Below(4) == 0:
					part = parts[len(parts)-1]
				}
				if numbers.Below(5) == 0 {
					part = drill.Turned(part, numbers.Below(8*len(part)), drill.Pick(&numbers, numbers.Runs()))
				}
				seq := x.f.Seq()
				switch e := x.feed(part); {
				case e == api.ErrGap:
					gaps++
				case e == api.ErrWire:
					none++
				case x.f.Seq() > seq:
					played++
				default:
					old++
				}
				if x.f.Seq() != seq || numbers.Below(10) == 0 {
					x.isBehind(l)
				}
			}
			for _, part := range l.given(x.f.Seq()) {
				x.feed(part)
			}
			for _, part := range parts {
				x.feed(part)
			}
			if x.f.Seq() != l.seq() {
				t.Fatalf("Seq = %d, of the primary %d", x.f.Seq(), l.seq())
			}
			x.isBehind(l)
		}
	}
	if min(played, gaps, old, none) < 100 {
		t.Errorf("%d were played, %d gaps, %d old ones, %d no parts", played, gaps, old, none)
	}
}

// loadedTail: a follower over a store that was loaded from the primary's dump.
func loadedTail(t *testing.T, l *lead, c api.Config, blocks int) *tail {
	t.Helper()
	if e := l.Store.Sync(); e != api.OK {
		t.Fatalf("Sync = %d", e)
	}
	b, e := dump.Save(l.Store, 600)
	if e != api.OK {
		t.Fatalf("Save = %d", e)
	}
	info, _ := dump.Check(b, 600)
	var shops [2]*drill.Shop
	for i := range shops {
		g := drill.GeometryOf(c, blocks)
		sh := &drill.Shop{Schema: l.Schema, Config: c, Geometry: g, Disk: drill.NewDisk(g), Rows: l.Rows}
		if sh.Store, e = dump.Load(b, 600, sh.Disk, g, c); e != api.OK {
			t.Fatalf("Load = %d", e)
		}
		shops[i] = sh
	}
	x := tailOver(t, shops[0], shops[1], info.Seq-uint64(info.Entries))
	if x.f.Seq() != l.seq() {
		t.Fatalf("Seq = %d, of the primary %d", x.f.Seq(), l.seq())
	}
	return x
}

// P27.8: every order in which a few parts may come, each twice or never.
func TestEveryOrder(t *testing.T) {
	l := exampleLead(t)
	l.doAll("put a {n=1}", "upsert a n = n * 2", "delete a", "upsert a new; n += 5", "put b {n=7}")
	if l.seq() != 5 {
		t.Fatal("not all were accepted")
	}
	reached := 0
	parts := l.given(0)[:4]
	drill.Scripts(parts, 5, func(list [][]byte) {
		x := newTail(t, l.Schema, exampleMeasures, 20, 0)
		next := uint64(1)
		for _, part := range list {
			x.feed(part)
			if bytes.Equal(part, parts[min(next, 4)-1]) && next <= 4 {
				next++
			}
			if x.f.Seq() != next-1 {
				t.Fatalf("Seq = %d, want %d", x.f.Seq(), next-1)
			}
		}
		x.isBehind(l)
		if next == 5 {
			reached++
		}
	})
	if reached != 16 {
		t.Errorf("%d orders reached the last call", reached)
	}
}

// R6: two followers of one primary, and of two, know nothing of one another.
func TestFollowersApart(t *testing.T) {
	numbers := drill.Numbers(934)
	a, b := newLead(t, exampleSchema, exampleMeasures, 300, &numbers), newLead(t, exampleSchema, exampleMeasures, 300, &numbers)
	a.some(9, 8)
	b.some(7, 8)
	x, y, z := exampleTail(t), exampleTail(t), exampleTail(t)
	for number, part := range a.given(0) {
		x.feed(part)
		if number%2 == 0 {
			y.feed(a.given(0)[number/2])
		}
		if number < 7 {
			z.feed(b.given(0)[number])
		}
		x.isBehind(a)
		y.isBehind(a)
		z.isBehind(b)
	}
}

// A primary or a follower of a store that was changed beside it: nothing is promised, but that each call ends.
func TestChangedBeside(t *testing.T) {
	st := drill.NewShop(exampleSchema, exampleMeasures, 60).Store
	p, _ := replica.NewPrimary(st)
	change := drill.ChangeOf(exampleSchema, "put a {n=1}")
	for range 5 {
		st.Apply(change)
		p.Apply(change)
		st.Apply(change)
		for seq := range uint64(20) {
			p.Since(seq, 3)
			x, _ := replica.NewFollower(drill.NewShop(exampleSchema, exampleMeasures, 60).Store, seq)
			replica.Pump(p, x, x)
		}
		if e := p.Trim(st.Seq()); e != api.OK {
			t.Errorf("Trim = %d", e)
		}
	}
	f, _ := replica.NewFollower(st, 0)
	replica.Pump(p, f)
	if e := f.Feed(slices.Concat(bookPart(exampleSchema, 1, change), []byte(fmt.Sprint(p.Seq())))); e != api.ErrWire {
		t.Errorf("Feed = %d", e)
	}
}
