package txn_test

import (
	"slices"
	"strconv"
	"strings"
	"testing"

	"arbor/api"
	"arbor/drill"
	"arbor/txn"
)

// What follows, told of the program's answers alone; and what it is to have read.

// No update is lost: of transactions that read a counter and put it one higher, as many as are committed are counted.
func TestNoUpdateIsLost(t *testing.T) {
	numbers := drill.Numbers(511)
	type counter struct {
		x    *txn.Txn
		next int64 // what it put; 0: nothing yet
	}
	k, _, _ := pairOf(t)
	var list []*counter
	committed, refused := int64(1), 0
	for range 2000 {
		switch n := numbers.Below(4); {
		case len(list) == 0 || n == 0 && len(list) < 9:
			list = append(list, &counter{x: k.begin().x})
		case n == 1:
			at := numbers.Below(len(list))
			switch e := list[at].x.Commit(); {
			case e == api.OK && list[at].next > 0:
				committed++
				if list[at].next != committed {
					t.Fatalf("the counter was put to %d, it should be %d", list[at].next, committed)
				}
			case e == api.ErrConflict:
				refused++
			case e != api.OK:
				t.Fatalf("Commit = %d", e)
			}
			list = slices.Delete(list, at, at+1)
		default:
			who := drill.Pick(&numbers, list)
			if who.next == 0 {
				row, _ := who.x.Get("a")
				who.next = row.Vals[0].N + 1
				who.x.Put("a", intOf(who.next))
			}
		}
	}
	k.holds("a", "{n="+strconv.FormatInt(committed, 10)+"}")
	if committed < 50 || refused < 50 {
		t.Errorf("%d were committed, %d refused", committed, refused)
	}
}

// Transactions that read nothing always commit, in any order: the store's map is that of their changes in the order of the commits.
func TestWhoReadsNothingCommits(t *testing.T) {
	numbers := drill.Numbers(512)
	for _, k := range desks(t) {
		f := drill.Fitting{Schema: k.s, Numbers: &numbers}
		for range 30 {
			for len(k.open) < 12 {
				k.begin()
			}
			for range 60 {
				k.ask(drill.Pick(&numbers, k.open), changeOf(k.s, f.Change(drill.SomeKey(&numbers, 6))))
			}
			for len(k.open) > 4 {
				k.ends(drill.Pick(&numbers, k.open), api.OK)
			}
			k.isNow()
		}
	}
}

// Two counter adds of one key never meet, however many transactions make them at one time.
func TestCounters(t *testing.T) {
	k, _, _ := pairOf(t)
	for len(k.open) < api.MaxOpen {
		k.begin()
	}
	for _, who := range k.open {
		k.change(who, "upsert a n += 1", "upsert c n += 2", "upsert a n += 1")
	}
	for len(k.open) > 0 {
		k.ends(k.open[len(k.open)/2], api.OK)
	}
	k.holds("a", "{n=129}")
	k.holds("c", "{n=131}")
}

// What a transaction sees is changed by its own changes alone: what is asked again is answered the same, whatever others commit meanwhile; and one without changes always commits.
func TestWhatIsSeenStays(t *testing.T) {
	numbers := drill.Numbers(513)
	for _, k := range desks(t) {
		f := drill.Fitting{Schema: k.s, Numbers: &numbers}
		var asks []call
		for range 15 {
			asks = append(asks, getOf(k.s, drill.SomeKey(&numbers, 12)), scanOf(k.s, drill.SomeKey(&numbers, 12), "", 1+numbers.Below(4)), scanOf(k.s, "", "", 99))
		}
		var list []*client
		for range 5 {
			who := k.begin()
			list = append(list, who)
			for _, c := range asks {
				k.ask(who, c)
			}
			for range 8 {
				other := k.begin()
				for _, key := range drill.SomeKeys(&numbers, 12, 4) {
					k.ask(other, changeOf(k.s, f.Change(key)))
				}
				k.ends(other, api.OK)
			}
			for _, who := range list {
				for i, c := range asks {
					if again := c.do(who.x); again != who.said[i] {
						t.Fatalf("%s = %s, and again %s", c.what, who.said[i], again)
					}
				}
			}
		}
		for _, who := range list {
			k.ends(who, api.OK)
		}
	}
}

// reading: one line a case: what a transaction does, what another one commits then, and whether it has read that.
var reading = []struct {
	does     []string
	names    string
	conflict bool
}{
	{[]string{"get a"}, "a", true},
	{[]string{"get a"}, "b", false},
	{[]string{"get none"}, "none", true},
	{[]string{"put a {}", "get a"}, "a", false},
	{[]string{"delete a", "get a"}, "a", false},
	{[]string{"upsert a new", "get a"}, "a", true},
	{[]string{"put a {}", "upsert a new", "get a"}, "a", false},
	{[]string{"upsert a new", "delete a", "get a"}, "a", false},
	{[]string{"get a", "put a {}"}, "a", true},
	{[]string{"get a", "put a {}", "get a"}, "a", true},
	{[]string{"put b {}", "get a"}, "a", true},
	{[]string{"put a {}", "get a", "get c"}, "c", true},
	{[]string{"scan . . 9"}, "a", true},
	{[]string{"scan . . 9"}, "\x00", true},
	{[]string{"scan . . 9"}, "\xff\xff", true},
	{[]string{"scan . . 2"}, "e", true},
	{[]string{"scan . . 2"}, "e\x00", false},
	{[]string{"scan . . 3"}, "z", false},
	{[]string{"scan . . 4"}, "z", true},
	{[]string{"scan . . 0"}, "c", false},
	{[]string{"scan e c 9"}, "d", false},
	{[]string{"scan e e 9"}, "e", false},
	{[]string{"scan d g 9"}, "d", true},
	{[]string{"scan d g 9"}, "c\xff", false},
	{[]string{"scan d g 9"}, "f\xff", true},
	{[]string{"scan d g 9"}, "g", false},
	{[]string{"scan d g 1"}, "e", true},
	{[]string{"scan d g 1"}, "d", true},
	{[]string{"scan d g 1"}, "f", false},
	{[]string{"scan d g 2"}, "f", true},
	{[]string{"put d {}", "scan . . 9"}, "d", false},
	{[]string{"put d {}", "scan . . 9"}, "e", true},
	{[]string{"delete e", "scan . . 9"}, "e", false},
	{[]string{"delete e", "scan . . 2"}, "f", true},
	{[]string{"delete e", "scan . . 2"}, "g", true},
	{[]string{"delete e", "scan . . 2"}, "h", false},
	{[]string{"put d {}", "scan . . 2"}, "cc", true},
	{[]string{"put d {}", "scan . . 2"}, "e", false},
	{[]string{"upsert e delete", "scan . . 9"}, "e", true},
	{[]string{"upsert e delete", "scan . . 2"}, "g", true},
	{[]string{"scan . . 9", "put e {}"}, "e", true},
	{[]string{"scan . . 9", "put e {}", "scan . . 9"}, "e", true},
	{[]string{"scan d g 9", "put e {}", "scan . . 9"}, "e", true},
	{[]string{"put e {}", "scan d g 9", "scan . . 9"}, "e", false},
	{[]string{"put e {}", "scan d g 9", "get e"}, "e", false},
	{[]string{"put e {}", "scan d e 9", "put d {}", "scan d g 9"}, "d", true},
	{[]string{"put d {}", "put e {}", "scan . . 2"}, "d", false},
}

// P21.7 and the words: just what a transaction has read makes a conflict; it does not matter whether it is read ahead of the other's commit or behind it, nor what the other one changes.
func TestWhatIsRead(t *testing.T) {
	c := drill.Measures()[1]
	s := drill.SchemaOf("n:int")
	for _, x := range reading {
		for _, kind := range []int{api.MPut, api.MDelete, api.MUpsert} {
			for _, late := range []bool{false, true} {
				k := newDesk(t, s, drill.GeometryOf(c, 300), c)
				k.startAnew("put c {n=1}", "put e {n=1}", "put g {n=1}")
				who, other := k.begin(), k.begin()
				k.ask(other, changeOf(s, api.Change{Kind: kind, Key: x.names}))
				if late {
					k.ends(other, api.OK)
				}
				for _, text := range x.does {
					k.ask(who, askOf(s, text))
				}
				if !late {
					k.ends(other, api.OK)
				}
				k.change(who, "upsert zz new")
				want := api.OK
				if x.conflict {
					want = api.ErrConflict
				}
				if e := k.commit(who); e != want {
					t.Errorf("%q, and another names %q by kind %d: %d, want %d", x.does, x.names, kind, e, want)
				}
				k.isNow()
			}
		}
	}
}

// P21.7: a conflict is with commits alone: who was given up, met a conflict, or is open makes none; nor do commits ahead of the begin, nor one's own changes.
func TestNoConflictWithOthers(t *testing.T) {
	k, x, u := pairOf(t)
	k.change(u, "put a {n=7}")
	k.row(x, "a", "{n=1}")
	k.change(x, "upsert a n += 1", "put c {n=4}")
	refused, given := k.begin(), k.begin()
	k.row(refused, "c", "{n=3}")
	k.change(refused, "delete a")
	k.change(given, "delete a", "delete c")
	k.abort(given)
	k.ends(x, api.OK)
	after := k.begin()
	k.row(after, "a", "{n=2}")
	k.row(after, "c", "{n=4}")
	k.ends(refused, api.ErrConflict)
	k.change(after, "upsert c n += 1")
	k.ends(after, api.OK)
	k.ends(u, api.OK)
	k.holds("a", "{n=7}")
	k.holds("c", "{n=5}")
}

// P21.9: what a commit changed twice is seen by each as it was when it began.
func TestManyPasts(t *testing.T) {
	k, _, _ := pairOf(t)
	var list []*client
	for n := range 60 {
		who := k.begin()
		list = append(list, who)
		for range 1 + n%3 {
			other := k.begin()
			k.change(other, "upsert a n += 1", "delete k"+strconv.Itoa(n%7), "upsert k"+strconv.Itoa(n%5)+" new; n += 1", "upsert a n += 1")
			k.ends(other, api.OK)
		}
		if n%4 == 3 {
			k.abort(list[n/2])
			list = slices.Delete(list, n/2, n/2+1)
			list = append(list, k.begin())
		}
		for _, who := range list {
			k.ask(who, getOf(k.s, "a"))
			k.ask(who, scanOf(k.s, "", "", 99))
		}
	}
}

// askOf: the call of a text: a change, get and a key, or scan, its ends (. is none) and a limit.
func askOf(s api.Schema, text string) call {
	words := strings.Fields(text)
	switch words[0] {
	case "get":
		return getOf(s, words[1])
	case "scan":
		limit, _ := strconv.Atoi(words[3])
		return scanOf(s, strings.Trim(words[1], "."), strings.Trim(words[2], "."), limit)
	}
	return changeOf(s, drill.ChangeOf(s, text))
}
