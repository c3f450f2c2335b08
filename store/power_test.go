package store_test

import (
	"testing"

	"arbor/api"
	"arbor/disk"
	"arbor/drill"
	"arbor/store"
)

// W2: a crash leaves a prefix, and all that was synced.

// story: a world, how many of its calls are durable for certain, and what the map is if the call in which the power went counts.
type story struct {
	*world
	least uint64
	maybe map[string]api.Row
}

// act: a call, a Sync or a Checkpoint. Is there power still?
func (s *story) act(f drill.Fitting, keys int) bool {
	s.t.Helper()
	e := api.OK
	s.maybe = nil
	switch f.Numbers.Below(8) {
	case 0:
		e = s.x.Sync()
	case 1:
		e = s.x.Checkpoint()
	default:
		return s.change(some(f, keys, 1+f.Numbers.Below(8)))
	}
	if e == api.OK {
		s.least = s.seq()
	} else if e != api.ErrPower {
		s.t.Fatalf("%v, %v: %d", s.g, s.c, e)
	}
	return e == api.OK
}

func (s *story) change(cs []api.Change) bool {
	s.t.Helper()
	was := s.d.Stats().Flushes
	switch e := s.try(cs...); e {
	case api.OK:
	case api.ErrPower:
		s.maybe = s.behind(cs...)
		return false
	case api.ErrFull:
		s.least = s.seq()
		x, e := store.Open(s.d)
		if e == api.ErrPower {
			return false
		}
		if s.x = x; e != api.OK {
			s.t.Fatalf("%v, %v: Open = %d", s.g, s.c, e)
		}
	default:
		s.t.Fatalf("%v, %v: %s = %d", s.g, s.c, drill.ShownChanges(s.s, cs), e)
	}
	if s.d.Stats().Flushes > was { // P18.10: it was committed
		s.least = max(s.least, super(s.t, s.d).Seq)
	}
	return true
}

// survived: the story over what a disk holds behind a loss of power. To open it once more gives the same.
func (s *story) survived(d *disk.Disk) *story {
	s.t.Helper()
	past := s.past
	if s.maybe != nil {
		past = append(past[:len(past):len(past)], s.maybe)
	}
	x := opened(s.t, d)
	seq := x.Seq()
	if seq < s.least || seq >= uint64(len(past)) {
		s.t.Fatalf("%v, %v: Seq = %d, of %d accepted calls %d were durable", s.g, s.c, seq, s.seq(), s.least)
	}
	over := &world{t: s.t, s: s.s, c: s.c, g: s.g, d: d, x: x, past: past[: seq+1 : seq+1]}
	over.isNow()
	if x.Mode() != api.ModeOpen {
		s.t.Fatalf("%v, %v: Mode = %d when opened anew", s.g, s.c, x.Mode())
	}
	over.reopen()
	over.isNow()
	return &story{world: over, least: seq}
}

// scenes: short and long logs, few blocks and many.
func scenes() []api.Geometry {
	c := exampleMeasures
	return []api.Geometry{geometryOf(c, 2, 200), geometryOf(c, 9, 200), geometryOf(c, 4, 14), {Sector: 64, Per: 4, Log: 6, Blocks: 30}}
}

// P18.2, P18.10, W2: the power goes at every write, and behind every call, and any of the waiting writes survive.
func TestEveryLossOfPower(t *testing.T) {
	for number, g := range scenes() {
		for arm, more := 0, true; more; arm += 1 + number/3 {
			numbers := drill.Numbers(311 + number) // so each time the same is done, and the power goes a little later
			s := &story{world: found(t, g, exampleMeasures, drill.Schemas()[number%2])}
			s.d.Arm(arm)
			f := drill.Fitting{Schema: s.s, Numbers: &numbers}
			more = false
			for range 25 {
				if !s.act(f, 12) {
					more = true
					break
				}
			}
			for range 6 {
				s.survived(s.d.Survive(numbers.Keep(len(s.d.Pending()))))
			}
		}
	}
}

// W2: every choice of the waiting writes of a few calls.
func TestEveryChoiceOfSurvivors(t *testing.T) {
	g := api.Geometry{Sector: 300, Per: 1, Log: 2, Blocks: 40}
	for arm := range 14 {
		s := &story{world: found(t, g, exampleMeasures, drill.SchemaOf("n:int"))}
		s.doAll("put a {n=1}", "put b {n=2}")
		s.sync()
		s.least = 2
		s.d.Arm(arm)
		for _, text := range []string{"upsert a n += 1", "delete b", "put c {n=3}", "put d {n=4}", "upsert c n += 5"} {
			if !s.change([]api.Change{drill.ChangeOf(s.s, text)}) {
				break
			}
		}
		drill.Keeps(min(len(s.d.Pending()), 10), func(keep []bool) { s.survived(s.d.Survive(keep)) })
	}
}

// W2: again and again, inside Open too.
func TestManyLossesOfPower(t *testing.T) {
	numbers := drill.Numbers(315)
	for _, c := range drill.Measures() {
		for _, g := range []api.Geometry{geometryOf(c, 2, 500), geometryOf(c, 12, 500), geometryOf(c, 5, 24)} {
			s := &story{world: found(t, g, c, drill.Pick(&numbers, drill.Schemas()))}
			f := drill.Fitting{Schema: s.s, Numbers: &numbers}
			for range 20 {
				s.d.Arm(numbers.Below(40 * g.Per))
				for s.act(f, 40) {
				}
				s = s.survived(darkened(t, s.d, &numbers))
			}
		}
	}
}

// darkened: what survives of a disk, behind some more losses of power while it is opened.
func darkened(t *testing.T, d *disk.Disk, numbers *drill.Numbers) *disk.Disk {
	t.Helper()
	d = d.Survive(numbers.Keep(len(d.Pending())))
	for numbers.Below(3) > 0 {
		d.Arm(numbers.Below(60))
		x, e := store.Open(d)
		if e != api.OK && e != api.ErrPower || (x == nil) != (e != api.OK) {
			t.Fatalf("Open = %v, %d", x, e)
		}
		d = d.Survive(numbers.Keep(len(d.Pending())))
	}
	return d
}

// P18.2, W2: the power goes at every write of an Open that has much to bring back.
func TestLossOfPowerInOpen(t *testing.T) {
	numbers := drill.Numbers(316)
	for _, c := range drill.Measures()[:4] {
		w := found(t, geometryOf(c, 40, 300), c, drill.Pick(&numbers, drill.Schemas()))
		f := drill.Fitting{Schema: w.s, Numbers: &numbers}
		for range 12 {
			w.do(some(f, 30, 4)...)
		}
		w.sync()
		s := &story{world: w, least: w.seq()}
		e := api.ErrPower
		for arm := 0; e == api.ErrPower; arm++ {
			d := w.d.Survive(nil)
			d.Arm(arm)
			var x *store.Store
			if x, e = store.Open(d); e != api.OK && e != api.ErrPower || (x == nil) != (e != api.OK) {
				t.Fatalf("Open = %v, %d", x, e)
			}
			for range 3 {
				s.survived(d.Survive(numbers.Keep(len(d.Pending()))))
			}
		}
	}
}

// P18.3, P18.4, P18.8, P18.9, P18.11 to P18.13: a dead store answers ErrPower, ahead of all but ErrArg, and touches nothing; what it is stays known.
func TestDeadStore(t *testing.T) {
	w := behindFour(t)
	w.kill()
	was := w.d.Stats()
	for _, key := range []string{"a", "", "0123456789abcdefg"} {
		w.want("Put", w.x.Put(key, intOf(1)), api.ErrPower)
		w.want("Put of a wrong value", w.x.Put(key, api.Value{Kind: 9}), api.ErrPower)
		w.want("Delete", w.x.Delete(key), api.ErrPower)
		w.want("Upsert", w.x.Upsert(key, "n +"), api.ErrPower)
		w.want("Apply", w.x.Apply(api.Change{Kind: 9, Key: key}), api.ErrPower)
		row, e := w.x.Get(key)
		if w.want("Get", e, api.ErrPower); row.Here || len(row.Vals) > 0 {
			t.Errorf("Get gives %v", row)
		}
	}
	w.want("Apply of nothing", w.x.Apply(), api.ErrPower)
	for _, limit := range []int{-1, 0, 5} {
		list, e := w.x.Scan("", "", limit)
		if w.want("Scan", e, api.ErrPower); len(list) > 0 {
			t.Errorf("Scan gives %v", list)
		}
	}
	for key := range w.x.All("", "") {
		t.Errorf("All gives %q", key)
	}
	w.want("Sync", w.x.Sync(), api.ErrPower)
	w.want("Checkpoint", w.x.Checkpoint(), api.ErrPower)
	if w.x.Mode() != api.ModeDead || w.x.Seq() != 4 || w.x.Geometry() != w.g || w.x.Config() != w.c || len(w.x.Schema().Fields) != 2 {
		t.Errorf("Mode = %d, Seq = %d, Geometry = %v, Config = %v, Schema = %v", w.x.Mode(), w.x.Seq(), w.x.Geometry(), w.x.Config(), w.x.Schema())
	}
	if w.d.Stats() != was {
		t.Errorf("a dead disk was asked: %v, was %v", w.d.Stats(), was)
	}
}

// P18.3: a store that is read only and dead is dead.
func TestDeadAndReadOnly(t *testing.T) {
	w := fullWorld(t, 6)
	w.kill()
	if w.x.Mode() != api.ModeDead {
		t.Errorf("Mode = %d", w.x.Mode())
	}
	w.want("Put", w.x.Put(""), api.ErrPower)
	w.want("Apply", w.x.Apply(), api.ErrPower)
}

// P18.4: the call in which the power goes answers ErrPower, and Seq is what it was.
func TestCallWithoutPower(t *testing.T) {
	for arm := range 30 {
		w := behindFour(t)
		w.d.Arm(arm)
		e := api.OK
		for number := range 5 {
			if e = w.try(drill.ChangeOf(w.s, "put k"+string(rune('0'+number))+" {n=1}")); e != api.OK {
				break
			}
		}
		if w.d.Dead() != (e == api.ErrPower) || e != api.OK && e != api.ErrPower || w.x.Seq() != w.seq() {
			t.Errorf("armed with %d: %d, Seq = %d, %d were accepted", arm, e, w.x.Seq(), w.seq())
		}
	}
	w := behindFour(t)
	w.d.Arm(2)
	w.want("Checkpoint", w.x.Checkpoint(), api.ErrPower)
	if w.x.Seq() != 4 || w.x.Mode() != api.ModeDead {
		t.Errorf("Seq = %d, Mode = %d", w.x.Seq(), w.x.Mode())
	}
}
