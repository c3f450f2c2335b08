package replica_test

import (
	"math"
	"strings"
	"testing"

	"arbor/api"
	"arbor/drill"
	"arbor/replica"
)

// P27.1 to P27.4: what a primary keeps and gives.

// odd: numbers near the edges of what is kept, and far from all.
func (l *lead) odd() []uint64 {
	seq := l.seq()
	return []uint64{0, 1, l.trimmed - 1, l.trimmed, l.trimmed + 1, (l.trimmed + seq) / 2, seq - 1, seq, seq + 1, seq + 2, 1 << 32, 1 << 63, math.MaxUint64 - 1, math.MaxUint64}
}

func (l *lead) asksAll() {
	l.t.Helper()
	for _, seq := range l.odd() {
		for _, most := range []int{math.MinInt, -1, 0, 1, 2, 5, math.MaxInt} {
			l.since(seq, most)
		}
	}
}

// P27.1: a primary keeps nothing of what was ahead of it, and all from then on.
func TestNewPrimary(t *testing.T) {
	numbers := drill.Numbers(911)
	for _, keys := range []int{0, 1, 30} {
		l := leadOver(t, drill.GrownShop(drill.Schemas()[0], drill.Measures()[1], &numbers, keys), &numbers)
		l.asksAll()
		l.some(3, 10)
		l.asksAll()
		again := leadOver(t, l.Shop, &numbers)
		again.asksAll()
		again.some(1, 10)
		again.asksAll()
	}
	if p, e := replica.NewPrimary(nil); p != nil || e != api.ErrArg {
		t.Errorf("NewPrimary of nothing = %v, %d", p, e)
	}
}

// P27.1: to make a primary or a follower does nothing to the disk, of a dead store too.
func TestNewOnesTouchNothing(t *testing.T) {
	numbers := drill.Numbers(912)
	for dead := range 2 {
		l := newLead(t, drill.Schemas()[1], exampleMeasures, 200, &numbers)
		l.some(5, 10)
		if dead > 0 {
			drill.Kill(l.Disk)
		}
		was := shotOf(l.Disk)
		over := leadOver(t, l.Shop, &numbers)
		newFollower(t, l.Store, 7)
		if !was.same(shotOf(l.Disk)) {
			t.Errorf("the disk was asked: %v, was %v", l.Disk.Stats(), was.stats)
		}
		over.asksAll()
	}
}

// P27.2 to P27.4: calls that are accepted and refused, parts that are asked for and trimmed, in any order.
func TestPrimaries(t *testing.T) {
	numbers := drill.Numbers(913)
	given, gaps, refused := 0, 0, 0
	for i, c := range drill.Measures() {
		for _, s := range drill.Schemas() {
			l := leadOver(t, drill.GrownShop(s, c, &numbers, 7*i), &numbers)
			wrong := drill.WrongChanges(s)
			for range 60 {
				switch numbers.Below(10) {
				case 0, 1, 2, 3:
					l.some(1, 30)
				case 4:
					w := drill.Pick(&numbers, wrong)
					if e := l.try(append(someChanges(l.f, 30, 7), w.Part)...); e != w.Errno {
						t.Fatalf("%s = %d, want %d", drill.ShownChange(s, w.Part), e, w.Errno)
					}
					refused++
				case 5, 6, 7, 8:
					most := drill.Pick(&numbers, []int{-1, 0, 1, 2, 3, 7, 100, math.MaxInt})
					parts, e := l.since(drill.Pick(&numbers, l.odd()), most)
					given += len(parts)
					if e == api.ErrGap {
						gaps++
					}
				default:
					if seq := drill.Pick(&numbers, l.odd()); seq < (l.trimmed+l.seq())/2 || seq > l.seq() || numbers.Below(3) == 0 {
						l.trim(seq)
					}
				}
			}
			l.asksAll()
		}
	}
	if given < 250 || gaps < 150 || refused < 50 {
		t.Errorf("%d parts were given, %d gaps, %d calls were refused", given, gaps, refused)
	}
}

// P27.2: a primary answers what its store's Apply answers, and does what that does; what is refused is not kept.
func TestCallsOfThePrimary(t *testing.T) {
	numbers := drill.Numbers(914)
	for _, s := range drill.Schemas() {
		l, twin := newLead(t, s, exampleMeasures, 800, &numbers), drill.NewShop(s, exampleMeasures, 800)
		same := func(cs ...api.Change) api.Errno {
			t.Helper()
			want := twin.Try(cs...)
			if e := l.try(cs...); e != want || !drill.SameDisks(l.Disk, twin.Disk) {
				t.Fatalf("%s = %d, want %d", drill.ShownChanges(s, cs), e, want)
			}
			return want
		}
		same()
		for _, w := range drill.WrongChanges(s) {
			same(w.Part)
			same(append(someChanges(l.f, 20, 3), w.Part)...)
			same(someChanges(l.f, 20, 8)...)
		}
		same(append(someChanges(l.f, 1, 1), make([]api.Change, 8)...)...)
		twin.Store.Sync() // Since does that
		l.given(0)
		twin.Disk.Arm(3)
		l.Disk.Arm(3)
		for same(someChanges(l.f, 20, 8)...) == api.OK {
		}
		same(someChanges(l.f, 20, 8)...)
		same()
		l.asksAll()
	}
}

// P27.2: of a store that is full what was refused is not kept, what was accepted is.
func TestFullPrimary(t *testing.T) {
	numbers := drill.Numbers(915)
	for _, blocks := range []int{4, 5, 9, 20} {
		l := newLead(t, drill.Schemas()[0], exampleMeasures, blocks, &numbers)
		for l.try(someChanges(l.f, 400, 8)...) == api.OK {
		}
		if e := l.try(drill.ChangeOf(l.Schema, "delete a")); l.Store.Mode() != api.ModeReadOnly || e != api.ErrReadOnly {
			t.Errorf("%d blocks: Mode = %d, Apply = %d", blocks, l.Store.Mode(), e)
		}
		l.asksAll()
		l.trim(l.seq() / 2)
		l.asksAll()
	}
}

// P27.4: what was given is durable; of a dead store nothing is given, and what has nothing to give says so still.
func TestSinceIsDurable(t *testing.T) {
	numbers := drill.Numbers(916)
	l := newLead(t, drill.Schemas()[1], exampleMeasures, 300, &numbers)
	for number := range 20 {
		l.some(1, 20)
		if most := number % 3; most > 0 {
			l.wantSince(l.seq()-1, most, 1, api.OK)
			if len(l.Disk.Pending()) > 0 {
				t.Fatal("a part was given, and writes wait still")
			}
		}
	}
	l.some(1, 20)
	l.Disk.Arm(0)
	l.wantSince(l.seq()-1, 1, 1, api.OK) // a flush is no write
	if e := l.try(someChanges(l.f, 20, 3)...); e != api.ErrPower {
		t.Fatalf("Apply = %d", e)
	}
	l.wantSince(l.seq()-1, 1, 0, api.ErrPower)
	l.wantSince(l.seq()-1, 0, 0, api.OK)
	l.wantSince(l.seq(), 9, 0, api.OK)
	l.wantSince(l.seq()+1, 9, 0, api.ErrGap)
	l.wantSince(l.seq()+1, -9, 0, api.ErrArg)
	l.wantTrim(l.seq()+1, api.ErrGap)
	l.wantTrim(5, api.OK)
	l.asksAll()
}

// P27.3: to trim again what was trimmed changes nothing, and nothing comes back.
func TestTrimmedAgain(t *testing.T) {
	numbers := drill.Numbers(917)
	l := newLead(t, exampleSchema, exampleMeasures, 300, &numbers)
	l.doAll("put a {n=1}", "put b {n=2}", "put c {n=3}", "put d {n=4}")
	for _, seq := range []uint64{0, 2, 2, 1, 0, 3, 2} {
		l.wantTrim(seq, api.OK)
		l.asksAll()
	}
	l.wantTrim(5, api.ErrGap)
	l.wantTrim(math.MaxUint64, api.ErrGap)
	l.asksAll()
	l.wantTrim(4, api.OK)
	l.asksAll()
	l.doAll("put e {n=5}")
	l.asksAll()
}

// The greatest call that a store accepts has a part, too.
func TestGreatestPart(t *testing.T) {
	numbers := drill.Numbers(918)
	s := drill.SchemaOf("a:bytes,b:bytes,c:bytes,on:bool")
	l, x := newLead(t, s, exampleMeasures, 300, &numbers), newTail(t, s, exampleMeasures, 300, 0)
	full := []api.Value{{Kind: api.Bytes, S: strings.Repeat("\xff", 20)}, {Kind: api.Bytes, S: strings.Repeat("\x00", 20)}, {Kind: api.Bytes, S: strings.Repeat("R", 20)}, {Kind: api.Bool, N: 1}}
	var ups, puts []api.Change
	for number := range 8 {
		key := strings.Repeat("\xfe", 15) + string(rune('0'+number))
		puts = append(puts, api.Change{Kind: api.MPut, Key: key, Vals: full})
		ups = append(ups, api.Change{Kind: api.MUpsert, Key: key, Src: "on = not on" + strings.Repeat(" ", 256-11)})
	}
	l.do(puts...)
	l.do(ups...)
	parts := l.given(0)
	if len(parts[0]) != 15+1+8*(2+16+1+64) || len(parts[1]) != 15+1+8*(2+16+2+256) {
		t.Errorf("the parts have %d and %d bytes", len(parts[0]), len(parts[1]))
	}
	for _, part := range parts {
		if e := x.feed(part); e != api.OK {
			t.Errorf("Feed = %d", e)
		}
	}
	x.isBehind(l)
}

// R3: methods of nothing.
func TestNothing(t *testing.T) {
	var p *replica.Primary
	var f *replica.Follower
	change := drill.ChangeOf(exampleSchema, "put a {n=1}")
	for what, e := range map[string]api.Errno{"Apply": p.Apply(change), "Apply of nothing": p.Apply(), "Trim": p.Trim(0), "Trim far": p.Trim(9), "Feed": f.Feed(nil), "Feed of a part": f.Feed(bookPart(exampleSchema, 1, change))} {
		if e != api.ErrArg {
			t.Errorf("%s = %d", what, e)
		}
	}
	for _, most := range []int{-1, 0, 1} {
		if parts, e := p.Since(0, most); len(parts) != 0 || e != api.ErrArg {
			t.Errorf("Since = %x, %d", parts, e)
		}
	}
	if p.Seq() != 0 || f.Seq() != 0 {
		t.Errorf("Seq = %d, %d", p.Seq(), f.Seq())
	}
	for _, base := range []uint64{0, 1, math.MaxUint64} {
		if f, e := replica.NewFollower(nil, base); f != nil || e != api.ErrArg {
			t.Errorf("NewFollower(nil, %d) = %v, %d", base, f, e)
		}
	}
}
