package txn

import (
	"slices"
	"strconv"
	"testing"

	"arbor/api"
	"arbor/disk"
	"arbor/drill"
	"arbor/pager"
	"arbor/store"
)

// What is kept of the past is no more than the open transactions need: looked at from inside, for no answer tells it.

// keeper: a manager, and which keys each of its commits named.
type keeper struct {
	t     *testing.T
	m     *Manager
	open  []*Txn
	named [][]string
}

func newKeeper(t *testing.T) *keeper {
	t.Helper()
	c := drill.Measures()[3]
	g := drill.GeometryOf(c, 300)
	d, _ := disk.New(pager.Sectors(g), g.Sector)
	st, e := store.Create(d, g, c, drill.SchemaOf("n:int"))
	if e != api.OK {
		t.Fatalf("Create = %d", e)
	}
	m, _ := New(st)
	return &keeper{t: t, m: m}
}

// needs: which rows of a key are seen by an open transaction, each told by the commit that changed it; and the last commit that named the key, 0 if nobody can ask for it.
func (k *keeper) needs(key string) (rows []int, last int) {
	made := 0
	for i, names := range k.named {
		commit := i + 1
		if !slices.Contains(names, key) {
			continue
		}
		if slices.ContainsFunc(k.open, func(x *Txn) bool { return made <= x.begun && x.begun < commit }) {
			rows = append(rows, commit)
		}
		made = commit
	}
	if slices.ContainsFunc(k.open, func(x *Txn) bool { return x.begun < made }) {
		last = made
	}
	return rows, last
}

// check: is just that kept?
func (k *keeper) check(keys []string) {
	k.t.Helper()
	rows, last := 0, 0
	for _, key := range keys {
		var kept []int
		for _, v := range k.m.rows[key] {
			kept = append(kept, v.commit)
		}
		wanted, named := k.needs(key)
		if !slices.Equal(kept, wanted) || k.m.last[key] != named {
			k.t.Fatalf("of %q the rows ahead of the commits %v are kept, and that %d named it last; needed are %v, %d", key, kept, k.m.last[key], wanted, named)
		}
		rows += min(len(wanted), 1)
		last += min(named, 1)
	}
	if len(k.m.rows) != rows || len(k.m.last) != last || len(k.m.open) != len(k.open) {
		k.t.Fatalf("kept are %d keys with rows, %d names, %d transactions; needed are %d, %d, %d", len(k.m.rows), len(k.m.last), len(k.m.open), rows, last, len(k.open))
	}
}

// leave: a transaction ends, by a commit or not, and keeps nothing.
func (k *keeper) leave(at int, commit bool) {
	k.t.Helper()
	x := k.open[at]
	k.open = slices.Delete(k.open, at, at+1)
	var keys []string
	for _, c := range x.changes {
		keys = append(keys, c.Key)
	}
	if !commit {
		x.Abort()
	} else if e := x.Commit(); e == api.OK && len(keys) > 0 {
		k.named = append(k.named, keys)
	} else if e != api.OK && e != api.ErrConflict {
		k.t.Fatalf("Commit = %d", e)
	}
	if !x.over || x.manager != nil || x.changes != nil || x.messages != nil || x.gets != nil || x.scans != nil {
		k.t.Fatalf("a transaction that is over keeps %v", x)
	}
}

// Ways: what no open transaction can need any more is deleted from the maps.
func TestWhatIsKept(t *testing.T) {
	numbers := drill.Numbers(561)
	keys := []string{"a", "b", "c", "d", "e"}
	for most := 1; most < 12; most++ {
		k := newKeeper(t)
		for range 1500 {
			switch n := numbers.Below(8); {
			case len(k.open) == 0 || n < 2 && len(k.open) < most:
				x, _ := k.m.Begin()
				k.open = append(k.open, x)
			case n < 4:
				k.leave(numbers.Below(len(k.open)), numbers.Below(5) > 0)
			case n < 5:
				drill.Pick(&numbers, k.open).Get(drill.Pick(&numbers, keys))
			default:
				drill.Pick(&numbers, k.open).Upsert(drill.Pick(&numbers, keys), "new; n += 1")
			}
			k.check(keys)
		}
		for len(k.open) > 0 {
			k.leave(len(k.open)-1, true)
			k.check(keys)
		}
		if len(k.m.rows) != 0 || len(k.m.last) != 0 {
			t.Errorf("with nobody open %d and %d are kept", len(k.m.rows), len(k.m.last))
		}
	}
}

// What is asked again and again is noted once.
func TestNotedOnce(t *testing.T) {
	k := newKeeper(t)
	x, _ := k.m.Begin()
	for i := range 500 {
		x.Get("a")
		x.Scan("", "", 5)
		x.Scan("b", "c", 5)
		if i < api.MaxBatch {
			x.Put("k"+strconv.Itoa(i), api.Value{Kind: api.Int, N: 1})
			x.Get("k" + strconv.Itoa(i)) // it is settled
		}
	}
	if len(x.gets) != 1 || len(x.scans) > 3+api.MaxBatch {
		t.Errorf("%d keys and %d ranges are noted", len(x.gets), len(x.scans))
	}
}

// The rows that are kept are not grown into by one another, nor by what is answered.
func TestKeptRowsAreApart(t *testing.T) {
	k := newKeeper(t)
	for n := range 20 {
		x, _ := k.m.Begin()
		k.open = append(k.open, x)
		y, _ := k.m.Begin()
		y.Put("a", api.Value{Kind: api.Int, N: int64(n)})
		y.Put("b", api.Value{Kind: api.Int, N: int64(100 + n)})
		if e := y.Commit(); e != api.OK {
			t.Fatalf("Commit = %d", e)
		}
	}
	var lists [][]api.Value
	for _, key := range []string{"a", "b"} {
		for _, v := range k.m.rows[key] {
			lists = append(lists, v.row.Vals)
		}
		for _, x := range k.open {
			row, _ := x.Get(key)
			lists = append(lists, row.Vals)
		}
	}
	if len(lists) != 80 || drill.AnyTwoShare(lists) {
		t.Errorf("of %d lists two share memory", len(lists))
	}
}
