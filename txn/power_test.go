package txn_test

import (
	"strconv"
	"testing"

	"arbor/api"
	"arbor/disk"
	"arbor/drill"
	"arbor/store"
)

// survived: a desk over what a disk holds behind a loss of power: the map behind some first commits, all those that were durable among them. The commit in which the power went may count as the last one.
func (k *desk) survived(d *disk.Disk) *desk {
	k.t.Helper()
	st, e := store.Open(d)
	if e != api.OK {
		k.t.Fatalf("%v: Open = %d", k.c, e)
	}
	past := k.book.Past
	if k.dying != nil {
		past = append(past[:len(past):len(past)], drill.PlayChanges(k.s, k.book.Now(), k.dying.book.Changes...))
	}
	if st.Seq() < k.least || st.Seq()-k.seq >= uint64(len(past)) {
		k.t.Fatalf("%v: Seq = %d, of %d commits behind %d, where %d were durable", k.c, st.Seq(), len(past)-1, k.seq, k.least)
	}
	over := deskOver(k.t, k.g, k.c, d, st, past[st.Seq()-k.seq])
	over.isNow()
	return over
}

// P21.10, W2: the power goes anywhere, again and again, inside commits too; whichever waiting writes survive.
func TestLossesOfPower(t *testing.T) {
	numbers := drill.Numbers(521)
	lost, dying := 0, 0
	for i, c := range drill.Measures() {
		for _, log := range []int{2, 12} {
			g := drill.GeometryOf(c, 300)
			g.Log = log
			k := newDesk(t, drill.Schemas()[i%2], g, c)
			for range 15 {
				w := walk{desk: k, f: drill.Fitting{Schema: k.s, Numbers: &numbers}, keys: 30, most: 6}
				k.d.Arm(numbers.Below(25 * g.Per))
				for !k.d.Dead() {
					w.step()
				}
				w.dark()
				last := k.st.Seq()
				k = k.survived(k.d.Survive(numbers.Keep(len(k.d.Pending()))))
				switch {
				case k.st.Seq() < last:
					lost++
				case k.st.Seq() > last:
					dying++
				}
			}
		}
	}
	if lost < 50 || dying < 5 {
		t.Errorf("commits were lost %d times, and %d times one counts in which the power went", lost, dying)
	}
}

// dark: without power each transaction tells of the keys that it has settled, and of nothing else that is asked for; and it can end.
func (w walk) dark() {
	w.t.Helper()
	stats := w.d.Stats()
	w.begin()
	for range 40 {
		w.ask(drill.Pick(w.f.Numbers, w.open), w.any())
	}
	for len(w.open) > 0 {
		if w.f.Numbers.Below(4) == 0 {
			w.abort(w.open[0])
		} else {
			w.commit(drill.Pick(w.f.Numbers, w.open))
		}
	}
	w.counts()
	if w.d.Stats() != stats {
		w.t.Fatalf("%v: a dead disk was asked: %v, was %v", w.c, w.d.Stats(), stats)
	}
}

// P21.10, W2: of a transaction's changes all survive or none, at whichever write of its commit the power goes.
func TestCommitsAreWhole(t *testing.T) {
	c := drill.Measures()[0]
	whole, none := 0, 0
	for arm := range 60 {
		k := newDesk(t, drill.SchemaOf(exampleText), api.Geometry{Sector: 64, Per: 4, Log: 8, Blocks: 100}, c)
		k.startAnew("put a {n=1}", "put b {n=1}", "put c {n=1}")
		k.durable(k.st.Sync)
		who := k.begin()
		k.change(who, "put a {n=2}", "upsert b n += 1", "put c {n=2}", "put d {n=2}", "delete e")
		k.d.Arm(arm)
		e := k.commit(who)
		numbers := drill.Numbers(arm)
		for range 20 {
			over := k.survived(k.d.Survive(numbers.Keep(len(k.d.Pending()))))
			if list, _ := over.st.Scan("", "", 9); len(list) == 4 {
				whole++
			} else {
				none++
			}
		}
		if e == api.OK {
			k.d.Arm(-1)
			k.durable(k.st.Checkpoint)
			if k.survived(k.d.Survive(nil)).st.Seq() != 2 {
				t.Error("a checkpoint keeps no commit")
			}
		}
	}
	if whole < 20 || none < 20 {
		t.Errorf("%d times all of it survived, %d times nothing", whole, none)
	}
}

// P21.4, P21.5, P21.7: the errors without power, and which stand ahead of ErrPower.
func TestWithoutPower(t *testing.T) {
	k, x, u := pairOf(t)
	silent, met := k.begin(), k.begin()
	k.change(x, "put z {n=26}", "delete y", "upsert a n += 1", "upsert z n += 1")
	k.row(u, "c", "{n=3}")
	k.keys(met, "", "", 9, "a c ")
	k.change(met, "put m {n=1}")
	other := k.begin()
	k.change(other, "upsert a n += 5")
	k.ends(other, api.OK)
	k.d.Arm(0)
	dying := k.begin()
	k.change(dying, "delete a")
	k.ends(dying, api.ErrPower)
	k.row(x, "z", "{n=27}")
	k.row(x, "y", "none")
	want := func(what string, got, want api.Errno) {
		t.Helper()
		if got != want {
			t.Errorf("%s = %d, want %d", what, got, want)
		}
	}
	for _, key := range []string{"a", "c", "nothing"} {
		row, e := x.x.Get(key) // of a, which was changed since, the row is known; but it is not told
		if want("Get", e, api.ErrPower); row.Here || len(row.Vals) > 0 {
			t.Errorf("Get gives %v", row)
		}
	}
	_, e := x.x.Get("")
	want("Get without a key", e, api.ErrKey)
	_, e = x.x.Scan("", "", -1)
	want("Scan below 0", e, api.ErrArg)
	k.keys(x, "", "", 0, "")
	k.keys(x, "b", "a", 9, "")
	list, e := x.x.Scan("y", "zz", 9) // only settled keys
	if want("Scan", e, api.ErrPower); len(list) > 0 {
		t.Errorf("Scan gives %v", list)
	}
	want("Put", x.x.Put("q", intOf(1)), api.OK)
	want("Upsert", x.x.Upsert("q", "n += 1"), api.OK)
	want("Upsert", x.x.Upsert("q", "n +"), api.ErrSyntax)
	k.ends(silent, api.OK)
	k.ends(u, api.OK)
	k.ends(met, api.ErrConflict)
	want("Commit", x.x.Commit(), api.ErrPower)
	want("Commit once more", x.x.Commit(), api.ErrDone)
	if x, e := k.m.Begin(); x == nil || e != api.OK {
		t.Errorf("Begin = %v, %d", x, e)
	}
}

// P21.7: a store that is full: the commit changes nothing, and those behind it answer ErrReadOnly; what is seen is seen as before.
func TestFullStores(t *testing.T) {
	numbers := drill.Numbers(522)
	full := 0
	for i, c := range drill.Measures()[:7] {
		for _, blocks := range []int{5, 8, 13, 21} {
			k := newDesk(t, drill.Schemas()[i%2], drill.GeometryOf(c, blocks), c)
			w := walk{desk: k, f: drill.Fitting{Schema: k.s, Numbers: &numbers}, keys: 40 * c.Leaf, most: 8}
			for range 300 {
				w.step()
			}
			for k.st.Mode() == api.ModeOpen {
				who := k.begin()
				for range 8 {
					k.ask(who, changeOf(k.s, api.Change{Kind: api.MPut, Key: "n" + strconv.Itoa(numbers.Below(10000))}))
				}
				if k.commit(who) == api.ErrFull {
					full++
				}
			}
			k.isNow()
			for range 100 {
				w.step()
			}
			w.leave()
			for _, text := range []string{"delete k", "put k {}", "upsert k new"} {
				who := k.begin()
				k.change(who, text)
				k.ends(who, api.ErrReadOnly)
			}
			k.isNow()
		}
	}
	if full < 5 {
		t.Errorf("%d commits met ErrFull behind the walks", full)
	}
}
