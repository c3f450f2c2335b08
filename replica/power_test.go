package replica_test

import (
	"testing"

	"arbor/api"
	"arbor/disk"
	"arbor/drill"
	"arbor/replica"
	"arbor/store"
)

// P27.8, W11: losses of power of the follower's disk, and of the primary's.

// opened: the shop of what a disk holds behind a loss of power.
func opened(t *testing.T, was *drill.Shop, d *disk.Disk, rows map[string]api.Row) *drill.Shop {
	t.Helper()
	st, e := store.Open(d)
	if e != api.OK {
		t.Fatalf("%v: Open = %d", was.Config, e)
	}
	return &drill.Shop{Schema: was.Schema, Config: was.Config, Geometry: was.Geometry, Disk: d, Store: st, Rows: rows}
}

// fate: a follower, and how many calls it holds for certain.
type fate struct {
	*drill.Shop
	t     *testing.T
	f     *replica.Follower
	base  uint64
	least uint64
}

// survived: the follower over what its disk holds behind a loss of power, with the same base: it holds what the primary held.
func (x *fate) survived(l *lead, d *disk.Disk) *fate {
	x.t.Helper()
	sh := opened(x.t, x.Shop, d, nil)
	over := &fate{Shop: sh, t: x.t, f: newFollower(x.t, sh.Store, x.base), base: x.base}
	if seq := over.f.Seq(); seq < x.least || seq > l.seq() {
		x.t.Fatalf("Seq = %d, of %d calls %d were durable", seq, l.seq(), x.least)
	}
	over.least = over.f.Seq()
	holds(x.t, sh.Store, l.behind(over.f.Seq()))
	return over
}

// act: a part, whichever, or a Sync or Checkpoint of the store. Is there power still?
func (x *fate) act(l *lead, numbers *drill.Numbers) bool {
	x.t.Helper()
	seq, e := x.f.Seq(), api.OK
	switch numbers.Below(12) {
	case 0:
		e = x.Store.Sync()
	case 1:
		e = x.Store.Checkpoint()
	case 2:
		b := drill.Pick(numbers, l.parts)
		if got := x.f.Feed(drill.Turned(b, numbers.Below(8*len(b)), 1)); got != api.ErrWire {
			x.t.Fatalf("Feed of damage = %d", got)
		}
		return true
	case 3, 4:
		e = x.f.Feed(drill.Pick(numbers, l.parts))
		if e == api.ErrGap || x.f.Seq() != seq || e == api.OK {
			return true
		}
	default:
		next := seq + 1 - l.first
		if next == uint64(len(l.parts)) {
			return true
		}
		if e = x.f.Feed(l.parts[next]); e == api.OK {
			return true
		}
	}
	if e != api.OK && e != api.ErrPower || x.f.Seq() != seq {
		x.t.Fatalf("%d, and Seq = %d, was %d", e, x.f.Seq(), seq)
	}
	if e == api.OK {
		x.least = seq
	}
	return e == api.OK
}

// catchesUp: with all that it lacks, in order, it holds what the primary holds.
func (x *fate) catchesUp(l *lead) {
	x.t.Helper()
	if got := replica.Pump(l.p, x.f); got[0] != api.OK || x.f.Seq() != l.seq() {
		x.t.Fatalf("Pump = %v, Seq = %d, of the primary %d", got, x.f.Seq(), l.seq())
	}
	holds(x.t, x.Store, l.Rows)
}

// The power of the follower's disk goes at every write, and any of the waiting writes survive.
func TestEveryLossOfAFollowersPower(t *testing.T) {
	for number, c := range []api.Config{drill.Measures()[0], drill.Measures()[5]} {
		lead := drill.Numbers(961)
		l := newLead(t, drill.Schemas()[number], drill.Measures()[3], 400, &lead)
		l.some(14, 12)
		for arm, more := 0, true; more; arm += 1 + 3*number {
			numbers := drill.Numbers(962) // so each time the same is done, and the power goes a little later
			sh := drill.NewShop(l.Schema, c, 150)
			x := &fate{Shop: sh, t: t, f: newFollower(t, sh.Store, 0)}
			x.Disk.Arm(arm)
			more = false
			for range 40 {
				if x.Disk.Dead() || !x.act(l, &numbers) {
					more = true
					break
				}
			}
			for range 4 {
				x.survived(l, x.Disk.Survive(numbers.Keep(len(x.Disk.Pending())))).catchesUp(l)
			}
		}
	}
}

// .. again and again, in Open too, of followers that began with a dump.
func TestManyLossesOfAFollowersPower(t *testing.T) {
	numbers := drill.Numbers(963)
	dark := 0
	for i, c := range drill.Measures() {
		l := leadOver(t, drill.GrownShop(drill.Schemas()[i%2], drill.Measures()[(i+3)%8], &numbers, 10), &numbers)
		y := loadedTail(t, l, c, 400)
		l.some(3, 30)
		x := &fate{Shop: y.Shop, t: t, f: y.f, base: y.base, least: y.f.Seq()}
		for range 20 {
			x.Disk.Arm(numbers.Below(30 * x.Geometry.Per))
			for range 60 {
				if x.Disk.Dead() || !x.act(l, &numbers) {
					dark++
					break
				}
				if numbers.Below(20) == 0 {
					l.some(1, 30)
				}
			}
			d := x.Disk.Survive(numbers.Keep(len(x.Disk.Pending())))
			for numbers.Below(3) > 0 {
				d.Arm(numbers.Below(60))
				store.Open(d)
				d = d.Survive(numbers.Keep(len(d.Pending())))
			}
			x = x.survived(l, d)
		}
		x.catchesUp(l)
	}
	if dark < 60 {
		t.Errorf("the power went %d times", dark)
	}
}

// A follower that is full goes on when it is opened anew, with the same base, as far as it has room.
func TestFullFollowers(t *testing.T) {
	numbers := drill.Numbers(964)
	l := newLead(t, drill.Schemas()[0], exampleMeasures, 900, &numbers)
	l.some(60, 40)
	full, on := 0, 0
	for _, blocks := range []int{4, 5, 7, 10, 14, 20, 30, 60, 120, 8*40 + 16} {
		sh := drill.NewShop(l.Schema, exampleMeasures, blocks)
		x := &fate{Shop: sh, t: t, f: newFollower(t, sh.Store, 0)}
		seq := uint64(1 << 60)
		for seq != x.f.Seq() {
			seq = x.f.Seq()
			e := replica.Pump(l.p, x.f)[0]
			holds(t, x.Store, l.behind(x.f.Seq()))
			if e == api.OK {
				break
			}
			full++
			if again := replica.Pump(l.p, x.f)[0]; e != api.ErrFull || again != api.ErrReadOnly {
				t.Fatalf("Pump = %d, then %d", e, again)
			}
			holds(t, x.Store, l.behind(x.f.Seq()))
			if x.f.Seq() > seq {
				on++
			}
			x.least = x.f.Seq() // what was accepted ahead of ErrFull was committed
			x = x.survived(l, x.Disk.Survive(nil))
		}
		if blocks == 8*40+16 {
			x.catchesUp(l)
		}
	}
	if full < 8 || on < 3 {
		t.Errorf("%d followers were full, %d of them went on ahead of that", full, on)
	}
}

// survivedLead: a new primary over what the disk of the one that lost its power holds. The call in which the power went may count.
func survivedLead(l *lead, dying []api.Change, d *disk.Disk) *lead {
	l.t.Helper()
	sh := opened(l.t, l.Shop, d, nil)
	switch seq := sh.Store.Seq(); {
	case dying != nil && seq == l.seq()+1:
		sh.Rows = drill.PlayChanges(l.Schema, l.Rows, dying...)
	case seq > l.seq() || seq+1 < l.first:
		l.t.Fatalf("Seq = %d, of %d calls", seq, l.seq())
	default:
		sh.Rows = l.behind(seq)
	}
	holds(l.t, sh.Store, sh.Rows)
	return leadOver(l.t, sh, l.f.Numbers)
}

// The power of the primary's disk goes: no follower is ahead of what survives, and each holds what the primary held. Those that hold it all go on; to the others the new primary cannot give what they lack.
func TestLossesOfThePrimarysPower(t *testing.T) {
	numbers := drill.Numbers(965)
	ahead, level, behind, lost := 0, 0, 0, 0
	for i, c := range drill.Measures() {
		s := drill.Schemas()[i%2]
		l := newLead(t, s, c, 900, &numbers)
		fs := make([]*tail, 3)
		for round := range 12 {
			for j := range fs {
				if fs[j] == nil || fs[j].f.Seq() < l.first-1 || fs[j].f.Seq() > l.seq() {
					fs[j] = loadedTail(t, l, drill.Measures()[(i+j)%8], 500)
				}
			}
			dying := l.untilPowerGoes(fs, 15+round)
			over := survivedLead(l, dying, l.Disk.Survive(numbers.Keep(len(l.Disk.Pending()))))
			lost += int(l.seq() - min(l.seq(), over.seq()))
			for _, x := range fs {
				seq := x.f.Seq()
				x.isBehind(l)
				switch {
				case seq > over.seq():
					ahead++
				case seq == over.seq():
					level++
					x.holds(over.Rows)
				default:
					behind++
				}
			}
			over.some(1, 30)
			fs = append(fs, nil)
			over.pumps(fs, &numbers)
			l, fs = over, fs[:3]
		}
	}
	if ahead > 0 || level < 10 || behind < 30 || lost < 30 {
		t.Errorf("%d followers were ahead, %d level, %d behind; %d calls were lost", ahead, level, behind, lost)
	}
}

// untilPowerGoes: calls and parts, until a call in which the power goes: its changes.
func (l *lead) untilPowerGoes(fs []*tail, most int) []api.Change {
	l.t.Helper()
	l.Disk.Arm(l.f.Numbers.Below(most * l.Geometry.Per))
	for {
		cs := someChanges(l.f, 30, 5)
		switch e := l.try(cs...); e {
		case api.ErrPower:
			return cs
		case api.OK:
		default:
			l.t.Fatalf("Apply = %d", e)
		}
		x := drill.Pick(l.f.Numbers, fs)
		if l.f.Numbers.Below(4) > 0 || x.f.Seq() < l.trimmed {
			continue
		}
		parts, _ := l.since(x.f.Seq(), 1+l.f.Numbers.Below(6))
		for _, part := range parts {
			x.feed(part)
		}
	}
}
