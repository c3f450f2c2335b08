package txn_test

import (
	"bytes"
	"testing"

	"arbor/api"
	"arbor/disk"
	"arbor/drill"
	"arbor/pager"
	"arbor/store"
)

// durableDesk: a store of so many keys, all of it durable.
func durableDesk(t *testing.T, c api.Config, numbers *drill.Numbers, keys int) *desk {
	t.Helper()
	k := newDesk(t, drill.Pick(numbers, drill.Schemas()), drill.GeometryOf(c, 8*keys+40), c)
	f := drill.Fitting{Schema: k.s, Numbers: numbers}
	for number := range keys {
		who := k.begin()
		k.ask(who, changeOf(k.s, api.Change{Kind: api.MPut, Key: drill.Key(number), Vals: f.Record()}))
		k.ask(who, changeOf(k.s, f.Change(drill.SomeKey(numbers, keys))))
		k.ends(who, api.OK)
	}
	k.durable(k.st.Checkpoint)
	return k
}

// pages: the blocks in use.
func (k *desk) pages() []int {
	k.t.Helper()
	p, e := pager.Open(k.d.Survive(nil))
	if e != api.OK {
		k.t.Fatalf("pager.Open = %d", e)
	}
	return drill.Pages(p)
}

// spoiled: the same store with other bytes in a block; nil, if it cannot be opened.
func (k *desk) spoiled(block int) *desk {
	k.t.Helper()
	image, size := k.d.Image(), k.g.Sector*k.g.Per
	copy(image[(2+k.g.Log)*k.g.Sector+block*size:], bytes.Repeat([]byte{7}, size))
	d, e := disk.FromImage(image, k.g.Sector)
	if e != api.OK {
		k.t.Fatalf("FromImage = %d", e)
	}
	st, e := store.Open(d)
	if e != api.OK {
		return nil
	}
	return deskOver(k.t, k.g, k.c, d, st, k.book.Now())
}

// attempt: does a call answer what the book says, or ErrDamaged? What it answers so is not read.
func (k *desk) attempt(who *client, c call) bool {
	k.t.Helper()
	was := len(who.book.Looks)
	got, want := c.do(who.x), c.told(who.book)
	if got == nothing(k.s, c) {
		who.book.Looks = who.book.Looks[:was]
		return false
	}
	if got != want {
		k.t.Fatalf("%v: over damage %s = %s, want %s", k.c, c.what, got, want)
	}
	return true
}

// nothing: what a call says with ErrDamaged.
func nothing(s api.Schema, c call) string {
	if c.what[:3] == "Get" {
		return drill.ShownRow(s, api.Row{}) + " " + number(api.ErrDamaged)
	}
	return drill.ShownEntries(s, nil) + " " + number(api.ErrDamaged)
}

// P21.4, P21.5, P21.7, W5: over a damaged page every answer is that over the undamaged bytes, or ErrDamaged with nothing else; what was not answered was not read; a commit that answers ErrDamaged has changed nothing.
func TestDamage(t *testing.T) {
	numbers := drill.Numbers(531)
	met := map[api.Errno]int{}
	silent := 0
	for _, c := range drill.Measures()[:6] {
		base := durableDesk(t, c, &numbers, 24)
		for _, block := range base.pages() {
			k := base.spoiled(block)
			if k == nil {
				continue
			}
			f := drill.Fitting{Schema: k.s, Numbers: &numbers}
			list := []*client{k.begin(), k.begin(), k.begin()}
			w := walk{desk: k, f: f, keys: 24}
			for range 100 {
				at := numbers.Below(len(list))
				who := list[at]
				switch numbers.Below(6) {
				case 0, 1:
					k.ask(who, changeOf(k.s, f.Change(w.key())))
				case 2, 3:
					silent += missed(k.attempt(who, scanOf(k.s, w.end(), w.end(), w.limit())))
				case 4:
					silent += missed(k.attempt(who, getOf(k.s, w.key())))
				case 5:
					met[k.commitOverDamage(who)]++
					list[at] = k.begin()
				}
			}
		}
	}
	if met[api.OK] < 200 || met[api.ErrDamaged] < 50 || met[api.ErrConflict] < 50 || len(met) != 3 || silent < 200 {
		t.Errorf("commits answered %v, %d questions ErrDamaged", met, silent)
	}
}

func missed(told bool) int {
	if told {
		return 0
	}
	return 1
}

// commitOverDamage: as the book says, or ErrDamaged. Whether it has changed anything is told by those who begin behind it.
func (k *desk) commitOverDamage(who *client) api.Errno {
	k.t.Helper()
	seq, commits := k.st.Seq(), k.m.Commits()
	e := who.x.Commit()
	who.book.Over = true
	want := api.OK
	switch {
	case len(who.book.Changes) == 0:
	case who.book.MeetsConflict():
		want = api.ErrConflict
	case e == api.ErrDamaged:
		want = e
	default:
		who.book.Committed()
		seq, commits = seq+1, commits+1
	}
	if e != want || k.st.Seq() != seq || k.m.Commits() != commits || k.st.Mode() != api.ModeOpen {
		k.t.Fatalf("%v: over damage Commit = %d, want %d; Seq %d, want %d, Commits %d, want %d, Mode %d", k.c, e, want, k.st.Seq(), seq, k.m.Commits(), commits, k.st.Mode())
	}
	return e
}

// P21.7: where nobody else is open, nobody sees the rows still: a commit answers just what the store's call does.
func TestCommitAloneOverDamage(t *testing.T) {
	numbers := drill.Numbers(532)
	met := map[api.Errno]int{}
	base := durableDesk(t, drill.Measures()[0], &numbers, 24)
	f := drill.Fitting{Schema: base.s, Numbers: &numbers}
	for _, block := range base.pages() {
		for number := range 60 {
			a, b := base.spoiled(block), base.spoiled(block)
			if a == nil {
				break
			}
			var cs []api.Change
			for i := range 1 + number%8 {
				cs = append(cs, f.Change(drill.Key((number*5+i)%24)))
			}
			who := a.begin()
			for _, c := range cs {
				a.ask(who, changeOf(a.s, c))
			}
			got, want := who.x.Commit(), b.st.Apply(cs...)
			if met[want]++; got != want {
				t.Fatalf("block %d: Commit = %d, Apply = %d", block, got, want)
			}
			if a.d.Stats() != b.d.Stats() {
				t.Fatalf("block %d: %v, want %v", block, a.d.Stats(), b.d.Stats())
			}
		}
	}
	if met[api.OK] < 20 || met[api.ErrDamaged] < 20 || len(met) != 2 {
		t.Errorf("Apply answered %v", met)
	}
}

// P21.4: a key that is settled is told over damage, too.
func TestSettledOverDamage(t *testing.T) {
	numbers := drill.Numbers(533)
	base := durableDesk(t, drill.Measures()[0], &numbers, 24)
	for _, block := range base.pages() {
		k := base.spoiled(block)
		if k == nil {
			continue
		}
		for number := range 24 {
			who := k.begin()
			k.ask(who, changeOf(k.s, api.Change{Kind: api.MDelete, Key: drill.Key(number)}))
			k.ask(who, getOf(k.s, drill.Key(number)))
			k.ask(who, changeOf(k.s, api.Change{Kind: api.MUpsert, Key: drill.Key(number), Src: "new; n += 3"}))
			k.ask(who, getOf(k.s, drill.Key(number)))
			k.abort(who)
		}
	}
}
