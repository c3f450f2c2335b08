package txn

import (
	"cmp"
	"math"
	"slices"

	"arbor/api"
)

// Get: a key's row, as the transaction sees it.
func (t *Txn) Get(key string) (api.Row, api.Errno) {
	if e := t.refusalOf(key); e != api.OK {
		return api.Row{}, e
	}
	var row api.Row
	if !settles(t.changes, key) {
		var e api.Errno
		if row, e = t.manager.rowBehind(t.begun, key); e != api.OK {
			return api.Row{}, e
		}
		t.gets[key] = struct{}{}
	}
	return t.onTop(key, row), api.OK
}

// Scan: entries, as the transaction sees them.
func (t *Txn) Scan(lo, hi string, limit int) ([]api.Entry, api.Errno) {
	if e := t.refusal(); e != api.OK {
		return nil, e
	}
	if limit < 0 {
		return nil, api.ErrArg
	}
	if limit == 0 || hi != "" && hi <= lo {
		return nil, api.OK
	}
	of := api.Range{Lo: lo, Hi: hi}
	list, e := t.entries(of, limit)
	if e != api.OK {
		return nil, e
	}
	if len(list) == limit {
		of.Hi = list[limit-1].Key + "\x00" // no text stands between a key and this
	}
	if _, is := t.scans[of]; !is {
		t.scans[of] = len(t.changes)
	}
	return list, api.OK
}

// entries: the first ones, limit at most, that the transaction sees in a range. The store is asked for so many more as may be other ones, or none, for the transaction.
func (t *Txn) entries(of api.Range, limit int) ([]api.Entry, api.Errno) {
	rows := t.manager.rowsBehind(t.begun, of)
	more := len(rows) + len(t.changes)
	list, e := t.manager.store.Scan(of.Lo, of.Hi, more+min(limit, math.MaxInt-more))
	if e != api.OK {
		return nil, e
	}
	for _, c := range t.changes {
		if _, is := rows[c.Key]; !is && within(of, c.Key) {
			rows[c.Key] = rowIn(list, c.Key)
		}
	}
	list = slices.DeleteFunc(list, func(entry api.Entry) bool {
		_, is := rows[entry.Key]
		return is
	})
	for key, row := range rows {
		if row = t.onTop(key, row); row.Here {
			list = append(list, api.Entry{Key: key, Vals: row.Vals})
		}
	}
	slices.SortFunc(list, func(a, b api.Entry) int { return cmp.Compare(a.Key, b.Key) })
	return list[:min(limit, len(list))], api.OK
}

// rowIn: a key's row by entries in rising order of keys.
func rowIn(list []api.Entry, key string) api.Row {
	at, is := slices.BinarySearchFunc(list, key, func(entry api.Entry, key string) int { return cmp.Compare(entry.Key, key) })
	if !is {
		return api.Row{}
	}
	return api.Row{Here: true, Vals: list[at].Vals}
}

// within: is a key in a range?
func within(of api.Range, key string) bool {
	return key >= of.Lo && (of.Hi == "" || key < of.Hi)
}

// conflicts: has a commit behind the transaction's begin named a key that it has read?
func (t *Txn) conflicts() bool {
	for key, commit := range t.manager.last {
		if commit > t.begun && t.hasRead(key) {
			return true
		}
	}
	return false
}

func (t *Txn) hasRead(key string) bool {
	if _, is := t.gets[key]; is {
		return true
	}
	for of, changes := range t.scans {
		if within(of, key) && !settles(t.changes[:changes], key) {
			return true
		}
	}
	return false
}
