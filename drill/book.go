package drill

import (
	"slices"

	"arbor/api"
	"arbor/lower"
	"arbor/value"
)

// Book: transactions over a map, told plainly and without haste: the whole map behind each commit, and of each transaction all that it has looked at.
type Book struct {
	Schema api.Schema
	Past   []map[string]api.Row // behind the first 0, 1, 2 .. commits, by the keys that were named
	Named  [][]string           // the keys that each of these commits named
	Dead   func() bool          // has what the map stands for lost its power?
}

// BookTxn: a transaction, as the book has it.
type BookTxn struct {
	Of      *Book
	Begun   int // behind so many commits
	Over    bool
	Changes []api.Change
	Looks   []Look
}

// Look: what a Get or a Scan that was answered with OK looked at: the keys from Lo on, below Hi or, if it is Bounded, up to Last; those that were settled aside.
type Look struct {
	Lo, Hi, Last string
	Bounded      bool
	Settled      []string
}

// NewBook: of a map without a commit yet.
func NewBook(s api.Schema, rows map[string]api.Row, dead func() bool) *Book {
	return &Book{Schema: s, Past: []map[string]api.Row{rows}, Dead: dead}
}

// Begin: a transaction that has done nothing.
func (b *Book) Begin() *BookTxn {
	return &BookTxn{Of: b, Begun: len(b.Past) - 1}
}

// Now: the map behind all commits.
func (b *Book) Now() map[string]api.Row {
	return b.Past[len(b.Past)-1]
}

// Sees: the map as it was at its begin, behind its own changes.
func (x *BookTxn) Sees() map[string]api.Row {
	return PlayChanges(x.Of.Schema, x.Of.Past[x.Begun], x.Changes...)
}

func (x *BookTxn) settled() []string {
	var keys []string
	for _, c := range x.Changes {
		if c.Kind == api.MPut || c.Kind == api.MDelete {
			keys = append(keys, c.Key)
		}
	}
	return keys
}

func (x *BookTxn) hasRead(key string) bool {
	return slices.ContainsFunc(x.Looks, func(l Look) bool {
		if slices.Contains(l.Settled, key) || key < l.Lo {
			return false
		}
		if l.Bounded && key > l.Last {
			return false
		}
		return l.Hi == "" || key < l.Hi
	})
}

// MeetsConflict: has a commit behind its begin named what it has read?
func (x *BookTxn) MeetsConflict() bool {
	return slices.ContainsFunc(slices.Concat(x.Of.Named[x.Begun:]...), x.hasRead)
}

func badKey(key string) bool { return len(key) < 1 || len(key) > 16 }

// Get: as the transaction's.
func (x *BookTxn) Get(key string) (api.Row, api.Errno) {
	if x.Over {
		return api.Row{}, api.ErrDone
	}
	if badKey(key) {
		return api.Row{}, api.ErrKey
	}
	if !slices.Contains(x.settled(), key) {
		if x.Of.Dead() {
			return api.Row{}, api.ErrPower
		}
		x.Looks = append(x.Looks, Look{Lo: key, Last: key, Bounded: true})
	}
	return x.Sees()[key], api.OK
}

// Scan: as the transaction's.
func (x *BookTxn) Scan(lo, hi string, limit int) ([]api.Entry, api.Errno) {
	if x.Over {
		return nil, api.ErrDone
	}
	if limit < 0 {
		return nil, api.ErrArg
	}
	if limit == 0 || hi != "" && !(hi > lo) {
		return nil, api.OK
	}
	if x.Of.Dead() {
		return nil, api.ErrPower
	}
	list := EntriesOf(x.Sees(), lo, hi)
	l := Look{Lo: lo, Hi: hi, Settled: x.settled()}
	if len(list) >= limit {
		list = list[:limit]
		l.Bounded, l.Last = true, list[limit-1].Key
	}
	x.Looks = append(x.Looks, l)
	return list, api.OK
}

// Change: as the transaction's. A put's values are those that Put is given, not all of a record yet.
func (x *BookTxn) Change(c api.Change) api.Errno {
	if x.Over {
		return api.ErrDone
	}
	if badKey(c.Key) {
		return api.ErrKey
	}
	switch c.Kind {
	case api.MPut:
		record, e := value.Make(x.Of.Schema, c.Vals...)
		if e != api.OK {
			return api.ErrValue
		}
		c.Vals = record
	case api.MUpsert:
		if _, e, _ := lower.Compile(x.Of.Schema, c.Src); e != api.OK {
			return e
		}
	}
	if len(x.Changes) >= 8 {
		return api.ErrBatch
	}
	x.Changes = append(x.Changes, c)
	return api.OK
}

// Committed: its changes are the map's.
func (x *BookTxn) Committed() {
	var keys []string
	for _, c := range x.Changes {
		keys = append(keys, c.Key)
	}
	x.Of.Past = append(x.Of.Past, PlayChanges(x.Of.Schema, x.Of.Now(), x.Changes...))
	x.Of.Named = append(x.Of.Named, keys)
}
