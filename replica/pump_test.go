package replica_test

import (
	"math"
	"slices"
	"sync"
	"testing"

	"arbor/api"
	"arbor/drill"
	"arbor/replica"
)

// P27.7: what the primary keeps goes to all followers, by each a goroutine.

// expects: the twin is brought as far as the follower is to come, part by part: what Pump is to answer for it.
func (x *tail) expects(l *lead) api.Errno {
	for {
		seq := x.base + x.twin.Store.Seq()
		switch {
		case seq > l.seq() || seq < l.trimmed:
			return api.ErrGap
		case seq == l.seq():
			return api.OK
		case l.Disk.Dead():
			return api.ErrPower
		}
		_, cs, is := bookCall(l.parts[seq+1-l.first], x.Schema)
		if !is {
			return api.ErrWire
		}
		if e := x.twin.Try(cs...); e != api.OK {
			return e
		}
	}
}

// pumps: does Pump answer for each, and do to each store, what the book says? Some are nil, some stand there twice.
func (l *lead) pumps(tails []*tail, numbers *drill.Numbers) map[api.Errno]int {
	l.t.Helper()
	answers := map[*tail]api.Errno{nil: api.ErrArg}
	for _, x := range tails {
		if x != nil {
			answers[x] = x.expects(l)
		}
	}
	told := map[api.Errno]int{}
	var fs []*replica.Follower
	var want []api.Errno
	for range len(tails) + numbers.Below(5) {
		tails = append(tails, drill.Pick(numbers, tails))
	}
	for _, x := range tails {
		if x == nil {
			fs = append(fs, nil)
		} else {
			fs = append(fs, x.f)
		}
		want = append(want, answers[x])
		told[answers[x]]++
	}
	was := shotOf(l.Disk)
	got := replica.Pump(l.p, fs...)
	if !slices.Equal(got, want) {
		l.t.Fatalf("Pump = %v, want %v", got, want)
	}
	for _, x := range tails {
		if x != nil {
			x.isLikeTwin("Pump")
		}
	}
	is := shotOf(l.Disk)
	if is.stats.Writes != was.stats.Writes || is.stats.Reads != was.stats.Reads || len(is.pending) > 0 && !drill.SameWrites(is.pending, was.pending) {
		l.t.Fatalf("Pump leaves the primary's disk as %v, was %v", is.stats, was.stats)
	}
	return told
}

// crowd: followers of all kinds, behind some of the primary's calls.
func crowd(l *lead, numbers *drill.Numbers) []*tail {
	l.t.Helper()
	tails := []*tail{nil}
	schemas := []api.Schema{drill.SchemaOf("on:bool"), drill.Schemas()[0], drill.Schemas()[1]}
	for number := range 12 {
		s, blocks, base := l.Schema, 700, uint64(0)
		switch number {
		case 1, 2:
			blocks = 6
		case 3:
			s = drill.Pick(numbers, schemas)
		case 4:
			base = 1000
		case 5:
			base = math.MaxUint64
		}
		x := newTail(l.t, s, drill.Measures()[number%8], blocks, base)
		for range numbers.Below(len(l.parts) + 1) {
			if x.f.Seq() < l.seq() {
				x.feed(l.parts[x.f.Seq()])
			}
		}
		switch number {
		case 6:
			drill.Kill(x.Disk)
			drill.Kill(x.twin.Disk)
		case 7, 8, 9:
			arm := numbers.Below(60)
			x.Disk.Arm(arm)
			x.twin.Disk.Arm(arm)
		}
		tails = append(tails, x)
	}
	return tails
}

func TestPumps(t *testing.T) {
	numbers := drill.Numbers(941)
	told := map[api.Errno]int{}
	for i, calls := range []int{0, 1, 2, 30, 63, 64, 65, 90, 127, 128, 129, 150} {
		l := newLead(t, drill.Schemas()[i%2], drill.Measures()[i%8], 2000, &numbers)
		for range calls {
			l.do(someChanges(l.f, 40, 3)...)
		}
		tails := crowd(l, &numbers)
		for round := range 5 {
			for e, times := range l.pumps(tails, &numbers) {
				told[e] += times
			}
			for _, x := range tails {
				if x != nil && x.f.Seq() == l.seq() && x.Store.Mode() == api.ModeOpen {
					x.isBehind(l)
				}
			}
			for range numbers.Below(8) {
				l.try(someChanges(l.f, 40, 3)...)
			}
			if round%2 == 1 {
				l.trim(uint64(numbers.Below(len(l.parts) + 1)))
			}
			if round == 3 {
				drill.Kill(l.Disk)
			}
		}
	}
	for _, e := range []api.Errno{api.OK, api.ErrArg, api.ErrGap, api.ErrPower, api.ErrFull, api.ErrReadOnly, api.ErrWire} {
		if told[e] < 5 {
			t.Errorf("Pump told %d for %d followers", e, told[e])
		}
	}
}

// A nil primary, and no followers.
func TestPumpOfNothing(t *testing.T) {
	l, x := exampleLead(t), exampleTail(t)
	l.doAll("put a {n=1}")
	for _, fs := range [][]*replica.Follower{nil, {}, {nil}, {x.f}, {x.f, nil, x.f}, slices.Repeat([]*replica.Follower{nil}, 1000)} {
		got := replica.Pump(nil, fs...)
		if len(got) != len(fs) || slices.ContainsFunc(got, func(e api.Errno) bool { return e != api.ErrArg }) {
			t.Errorf("Pump of no primary for %d = %v", len(fs), got)
		}
	}
	if got := replica.Pump(l.p); len(got) != 0 {
		t.Errorf("Pump without followers = %v", got)
	}
	if got := replica.Pump(l.p, nil, nil); !slices.Equal(got, []api.Errno{api.ErrArg, api.ErrArg}) {
		t.Errorf("Pump of nil followers = %v", got)
	}
	x.isLikeTwin("Pump without a primary")
}

// Many followers, each there many times.
func TestPumpOfMany(t *testing.T) {
	l := exampleLead(t)
	l.doAll("put a {n=1}", "upsert a n += 1", "put b {n=7}")
	var fs []*replica.Follower
	var stores []*tail
	for range 300 {
		x := newTail(t, exampleSchema, exampleMeasures, 10, 0)
		stores, fs = append(stores, x), append(fs, x.f)
	}
	fs = slices.Repeat(fs, 40)
	if got := replica.Pump(l.p, fs...); len(got) != 12000 || slices.ContainsFunc(got, func(e api.Errno) bool { return e != api.OK }) {
		t.Errorf("Pump = %v", got)
	}
	for _, x := range stores {
		holds(t, x.Store, l.Rows)
	}
}

// R10: while followers are fed their stores and the primary's may be asked, synced and checkpointed.
func TestPumpWhileStoresAreAsked(t *testing.T) {
	numbers := drill.Numbers(942)
	l := newLead(t, drill.Schemas()[0], drill.Measures()[2], 900, &numbers)
	l.some(80, 40)
	fs := make([]*replica.Follower, 4)
	shops := []*drill.Shop{l.Shop}
	for i := range fs {
		x := newTail(t, l.Schema, drill.Measures()[i], 900, 0)
		fs[i], shops = x.f, append(shops, x.Shop)
	}
	var all sync.WaitGroup
	for _, sh := range shops {
		all.Go(func() {
			for range 50 {
				sh.Store.Scan("", "", 100)
				sh.Store.Sync()
				sh.Store.Checkpoint()
				sh.Store.Seq()
			}
		})
	}
	if got := replica.Pump(l.p, fs...); !slices.Equal(got, make([]api.Errno, 4)) {
		t.Errorf("Pump = %v", got)
	}
	all.Wait()
	for _, sh := range shops {
		holds(t, sh.Store, l.Rows)
	}
}
