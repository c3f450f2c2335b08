package server_test

import (
	"math"
	"strconv"
	"testing"

	"arbor/api"
	"arbor/drill"
)

// The table of operations, at its bounds.

// deskOf: so many keys, of three digits each, in rising order, worth their numbers.
func deskOf(t *testing.T, keys int) *desk {
	t.Helper()
	k := newDesk(t, drill.SchemaOf("n:int"), drill.Measures()[5], 8*(keys+4)+16)
	k.connect()
	k.connect()
	for number := range keys {
		k.ask(0, k.put(digits(number), "{n="+strconv.Itoa(number)+"}"))
	}
	return k
}

func digits(number int) string { return strconv.Itoa(1000 + number)[1:] }

// rows: of these numbers.
func rows(from, to int) api.Reply {
	var list []api.Entry
	for number := from; number < to; number++ {
		list = append(list, api.Entry{Key: digits(number), Vals: []api.Value{{Kind: api.Int, N: int64(number)}}})
	}
	return api.Reply{Rows: list}
}

// RScan: at most 100 entries, whatever N asks for; RQuery: the first 100 rows, out of all that it has found.
func TestOneHundredRows(t *testing.T) {
	for _, keys := range []int{0, 1, 99, 100, 101, 250} {
		k := deskOf(t, keys)
		for _, open := range []bool{false, true} {
			if open {
				k.ask(0, asks(api.ROpen))
			}
			for _, n := range []int64{0, 1, 99, 100, 101, 150, 1 << 31, 1 << 32, 1<<32 + 1, 1 << 62, math.MaxInt64} {
				k.answers(0, scan("", "", n), rows(0, int(min(n, 100, int64(keys)))))
				k.answers(0, scan("050", "", n), rows(50, max(50, min(50+int(min(n, 100)), keys))))
			}
			for _, n := range []int64{-1, -100, -1 << 32, -1<<32 + 1, math.MinInt64} {
				k.answers(0, scan("", "", n), refused(api.ErrArg))
				k.answers(0, scan("b", "a", n), refused(api.ErrArg))
			}
			k.answers(0, queryOf("", "", "rows"), rows(0, min(100, keys)))
			k.answers(0, queryOf("", "", "where n >= 120 rows"), rows(min(120, keys), min(220, keys)))
			k.answers(0, queryOf("", "", "rows by -n down limit 150"), rows(0, min(100, keys)))
			k.answers(0, queryOf("", "", "where n < 7 rows limit 101"), rows(0, min(7, keys)))
			k.answers(0, queryOf("", "", "count"), worth(int64(keys)))
			k.answers(0, queryOf("020", "240", "sum 1"), worth(int64(max(0, min(keys, 240)-20))))
			k.answers(0, queryOf("", "", "where n == 249 count"), worth(int64(keys/250)))
		}
		k.ask(0, asks(api.RCommit))
	}
}

// What a session has read hangs on the limit: a scan that had 100 entries has read up to the last one; a query all of its range, whatever its rows.
func TestWhatARequestReads(t *testing.T) {
	for _, x := range []struct {
		does     api.Request
		names    string
		conflict bool
	}{
		{scan("", "", 1000), "099", true},
		{scan("", "", 1000), "100", false},
		{scan("", "", 1000), "149", false},
		{scan("", "", 100), "0990", false},
		{scan("", "", 99), "099", false},
		{scan("", "", 0), "000", false},
		{scan("060", "", 1000), "149", true},
		{scan("060", "", 1000), "zzz", true},
		{scan("050", "", 1000), "149", true},
		{scan("050", "", 1000), "zzz", false},
		{scan("", "", -1), "000", false},
		{queryOf("", "", "rows"), "149", true},
		{queryOf("", "", "rows"), "zzz", true},
		{queryOf("", "", "rows limit 1"), "149", true},
		{queryOf("", "", "rows limit 0"), "149", true},
		{queryOf("", "", "where false count"), "149", true},
		{queryOf("", "100", "any true"), "099z", true},
		{queryOf("", "100", "any true"), "100", false},
		{queryOf("010", "", "any true"), "00z", false},
		{queryOf("b", "a", "count"), "a", false},
		{queryOf("", "", "sum"), "000", false},
		{queryOf("", "", "sum x"), "000", false},
		{get("100"), "100", true},
		{get("zzz"), "zzz", true},
		{get("100"), "099", false},
		{get(""), "099", false},
		{upsert("100", "n += 1"), "100", false},
		{remove("100"), "100", false},
		{upsert("100", "x += 1"), "100", false},
	} {
		k := deskOf(t, 150)
		k.ask(0, asks(api.ROpen))
		k.ask(0, x.does)
		k.ask(0, upsert("mine", "new"))
		k.ask(1, upsert(x.names, "new"))
		want := api.Reply{}
		if x.conflict {
			want = refused(api.ErrConflict)
		}
		k.answers(0, asks(api.RCommit), want)
		k.isNow()
	}
}

// A query in an open transaction is asked of what that sees: its own changes on top, nothing of what others commit meanwhile.
func TestQueriesInTransactions(t *testing.T) {
	k := deskOf(t, 5)
	k.ask(0, asks(api.ROpen))
	k.answers(0, queryOf("", "", "sum n"), worth(10))
	k.ask(0, upsert("003", "n += 100"))
	k.ask(0, remove("004"))
	k.ask(0, k.put("005", "{n=7}"))
	k.ask(1, upsert("000", "n += 5000"))
	k.ask(1, upsert("zzz", "new; n += 9000"))
	k.answers(0, queryOf("", "", "sum n"), worth(0+1+2+103+7))
	k.answers(0, queryOf("", "", "where n > 2 count"), worth(2))
	k.answers(0, queryOf("", "", "sum"), refused(api.ErrQuery))
	k.answers(0, queryOf("", "", "sum n"), worth(113))
	k.answers(1, queryOf("", "", "max n"), worth(9000))
	k.answers(0, asks(api.RCommit), refused(api.ErrConflict))
	k.answers(0, queryOf("", "", "min n"), worth(1))
	k.isNow()
}

// A request never ends a transaction but by RCommit and RAbort; an error inside leaves it open, with its changes and what it has read.
func TestWhatEndsATransaction(t *testing.T) {
	k := deskOf(t, 3)
	for _, ends := range []int{api.RCommit, api.RAbort} {
		for _, r := range []api.Request{
			asks(api.ROpen), asks(api.RSync), asks(api.RSeq), get(""), get("000"), get("none"), scan("", "", -1), scan("", "", 5), upsert("000", "x = 1"), upsert("000", "n +"), remove(""), k.put("", "{n=1}"), queryOf("", "", "sum x"), queryOf("", "", "rows"),
		} {
			k.answers(0, asks(api.ROpen), api.Reply{})
			k.answers(0, upsert("002", "n = 7"), api.Reply{})
			for range 2 {
				k.ask(0, r)
				k.answers(0, get("002"), k.row("{n=7}"))
			}
			k.answers(0, asks(ends), api.Reply{})
			k.answers(0, asks(ends), refused(api.ErrOrder))
			k.ask(1, upsert("002", "n = 2"))
		}
		for range 8 {
			k.answers(0, asks(api.ROpen), api.Reply{})
			for range 8 {
				k.answers(0, upsert("001", "n += 1"), api.Reply{})
			}
			for _, r := range []api.Request{upsert("001", "n += 1"), remove("001"), k.put("001", "{n=1}")} {
				k.answers(0, r, refused(api.ErrBatch))
			}
			k.answers(0, asks(ends), api.Reply{})
		}
	}
	k.answers(1, get("001"), k.row("{n=65}"))
	k.isNow()
}

// A session has at most one transaction open at a time, and each its own.
func TestEachSessionsTransaction(t *testing.T) {
	k := deskOf(t, 1)
	for len(k.open) < api.MaxSessions {
		k.connect()
	}
	for _, session := range k.numbers() {
		k.answers(session, asks(api.ROpen), api.Reply{})
		k.answers(session, asks(api.ROpen), refused(api.ErrOrder))
		k.answers(session, k.put("k"+strconv.Itoa(session), "{n="+strconv.Itoa(session)+"}"), api.Reply{})
	}
	for _, session := range k.numbers() {
		k.answers(session, queryOf("k", "", "sum n"), worth(int64(session)))
		if session%3 == 0 {
			k.answers(session, asks(api.RAbort), api.Reply{})
		} else {
			k.answers(session, asks(api.ROpen), refused(api.ErrOrder))
		}
	}
	for _, session := range k.numbers() {
		want := api.Reply{}
		if session%3 == 0 {
			want = refused(api.ErrOrder)
		} else if session > 1 {
			want = refused(api.ErrConflict) // the first one that commits has named a key that the others have read as a gap
		}
		k.answers(session, asks(api.RCommit), want)
	}
	k.answers(0, queryOf("k", "", "sum n"), worth(1))
	k.isNow()
}

// RSync makes durable what was committed; RSeq counts the calls that were accepted; both are asked of the store, inside a transaction too.
func TestSyncAndSeq(t *testing.T) {
	k := deskOf(t, 3)
	k.ask(0, asks(api.ROpen))
	k.ask(0, remove("000"))
	k.answers(0, asks(api.RSeq), api.Reply{N: 3})
	flushes := k.Disk.Stats().Flushes
	k.answers(0, asks(api.RSync), api.Reply{})
	if k.Disk.Stats().Flushes != flushes+1 {
		t.Errorf("RSync flushed %d times", k.Disk.Stats().Flushes-flushes)
	}
	k.ask(1, remove("001"))
	k.answers(0, asks(api.RSeq), api.Reply{N: 4})
	over := k.survived(k.Disk.Survive(nil))
	over.connect()
	over.answers(0, asks(api.RSeq), api.Reply{N: 3})
	over.answers(0, scan("", "", 9), rows(0, 3))
}
