package txn_test

import (
	"testing"

	"arbor/api"
	"arbor/drill"
	"arbor/txn"
)

var spareValue = api.Value{Kind: 77, N: 77, S: "spare"}

// P21.11, R5: values that are handed in are not changed, nor is the room behind them, nor are they kept.
func TestArgumentsAreNotKept(t *testing.T) {
	numbers := drill.Numbers(551)
	for _, k := range desks(t) {
		f := drill.Fitting{Schema: k.s, Numbers: &numbers}
		for range 40 {
			who := k.begin()
			for range 6 {
				record := f.Record()[:numbers.Below(len(k.s.Fields)+1)]
				vals, key := drill.Roomy(record, spareValue), drill.SomeKey(&numbers, 8)
				if e := who.x.Put(key, vals...); e != api.OK || !drill.AsItWas(vals, record, spareValue) {
					t.Fatalf("Put = %d, and the values are %v, they were %v", e, vals, record)
				}
				who.book.Change(api.Change{Kind: api.MPut, Key: key, Vals: record})
				drill.Overwrite(vals, spareValue)
				k.ask(who, getOf(k.s, key))
			}
			wrong := drill.Roomy([]api.Value{{Kind: 9}}, spareValue)
			if e := who.x.Put("k", wrong...); e != api.ErrValue || !drill.AsItWas(wrong, []api.Value{{Kind: 9}}, spareValue) {
				t.Fatalf("Put = %d, and the values are %v", e, wrong)
			}
			k.ask(who, scanOf(k.s, "", "", 99))
			k.ends(who, api.OK)
			k.isNow()
		}
	}
}

// answers: all that some transactions tell, as lists.
func answers(list []*client) (vals [][]api.Value, entries [][]api.Entry) {
	for _, who := range list {
		for number := range 10 {
			row, _ := who.x.Get(drill.Key(number))
			vals = append(vals, row.Vals)
		}
		for _, limit := range []int{1, 3, 99} {
			list, _ := who.x.Scan("", "", limit)
			entries = append(entries, list)
			for _, entry := range list {
				vals = append(vals, entry.Vals)
			}
		}
	}
	return vals, entries
}

// P21.11, R5: what is answered is new memory: no two lists of it share any, and what is done to it is not seen: neither by the transaction nor by another one, the store, or what is kept of the past.
func TestAnswersShareNothing(t *testing.T) {
	numbers := drill.Numbers(552)
	for _, k := range desks(t) {
		f := drill.Fitting{Schema: k.s, Numbers: &numbers}
		var list []*client
		for number := range 5 {
			who := k.begin()
			list = append(list, who)
			k.ask(who, changeOf(k.s, api.Change{Kind: api.MPut, Key: drill.Key(number), Vals: f.Record()}))
			k.ask(who, changeOf(k.s, api.Change{Kind: api.MUpsert, Key: drill.Key(number + 1), Src: "new; n += 1"}))
			other := k.begin()
			for number := range 8 {
				k.ask(other, changeOf(k.s, api.Change{Kind: api.MPut, Key: drill.Key(number), Vals: f.Record()}))
			}
			k.ends(other, api.OK)
		}
		for range 2 {
			vals, entries := answers(list)
			again, more := answers(list)
			if drill.AnyTwoShare(append(vals, again...)) || drill.AnyTwoShare(append(entries, more...)) {
				t.Fatal("two answers share memory")
			}
			for _, list := range append(vals, again...) {
				drill.Overwrite(list, spareValue)
			}
			for _, list := range append(entries, more...) {
				drill.Overwrite(list, api.Entry{Key: "spare", Vals: []api.Value{spareValue}})
			}
			for _, who := range list {
				for number := range 10 {
					k.ask(who, getOf(k.s, drill.Key(number)))
				}
				k.ask(who, scanOf(k.s, "", "", 3))
				k.ask(who, scanOf(k.s, "", "", 99))
			}
			k.isNow()
		}
		k.abort(list[0])
		k.isNow()
	}
}

// R4: without values, and with a list of none.
func TestNoValues(t *testing.T) {
	k, x, _ := pairOf(t)
	for i, e := range []api.Errno{x.x.Put("p"), x.x.Put("q", nil...), x.x.Put("r", []api.Value{}...)} {
		if e != api.OK {
			t.Errorf("%d: Put = %d", i, e)
		}
	}
	for _, key := range []string{"p", "q", "r"} {
		if row, e := x.x.Get(key); e != api.OK || !drill.SameRow(row, drill.RowOf(k.s, "{n=0}")) {
			t.Errorf("Get(%q) = %v, %d", key, row, e)
		}
	}
}

// R6: two managers over two stores know nothing of one another.
func TestTwoManagers(t *testing.T) {
	numbers := drill.Numbers(553)
	var walks []walk
	for i := range 2 {
		c := drill.Measures()[i]
		k := newDesk(t, drill.Schemas()[i], drill.GeometryOf(c, 100), c)
		walks = append(walks, walk{desk: k, f: drill.Fitting{Schema: k.s, Numbers: &numbers}, keys: 9, most: 5})
	}
	for range 1500 {
		drill.Pick(&numbers, walks).step()
	}
	for _, w := range walks {
		w.leave()
		w.serial()
	}
}

// A manager goes on where another one left the store.
func TestOneManagerBehindAnother(t *testing.T) {
	numbers := drill.Numbers(554)
	c := drill.Measures()[2]
	k := newDesk(t, drill.Schemas()[0], drill.GeometryOf(c, 300), c)
	for range 8 {
		w := walk{desk: k, f: drill.Fitting{Schema: k.s, Numbers: &numbers}, keys: 12, most: 5}
		for range 100 {
			w.step()
		}
		// Those that are open still have changed nothing.
		k = deskOver(t, k.g, k.c, k.d, k.st, k.book.Now())
		k.isNow()
	}
}

// P21.1: each transaction is one of its own.
func TestEachBeginIsNew(t *testing.T) {
	k, _, _ := pairOf(t)
	met := map[*txn.Txn]int{}
	for range 300 {
		who := k.begin()
		if met[who.x]++; met[who.x] > 1 {
			t.Fatal("a transaction is given twice")
		}
		k.ask(who, getOf(k.s, "a"))
		k.ask(who, changeOf(k.s, api.Change{Kind: api.MDelete, Key: "a"}))
		k.abort(who)
	}
	k.counts()
}
