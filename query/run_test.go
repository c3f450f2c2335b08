package query_test

import (
	"bytes"
	"math"
	"strconv"
	"strings"
	"sync"
	"testing"

	"arbor/api"
	"arbor/disk"
	"arbor/drill"
	"arbor/pager"
	"arbor/query"
	"arbor/store"
)

// shop: a store on a disk, and the abstract map of its calls.
type shop struct {
	t    *testing.T
	s    api.Schema
	g    api.Geometry
	d    *disk.Disk
	x    *store.Store
	rows map[string]api.Row
}

func newShop(t *testing.T, s api.Schema, g api.Geometry, c api.Config) *shop {
	t.Helper()
	d, e := disk.New(pager.Sectors(g), g.Sector)
	if e != api.OK {
		t.Fatalf("a disk for %v: %d", g, e)
	}
	x, e := store.Create(d, g, c, s)
	if e != api.OK {
		t.Fatalf("Create(%v, %v) = %d", g, c, e)
	}
	return &shop{t: t, s: s, g: g, d: d, x: x, rows: map[string]api.Row{}}
}

// grown: a store in which so many keys were changed, some of them more than once.
func grown(t *testing.T, s api.Schema, c api.Config, numbers *drill.Numbers, keys int) *shop {
	t.Helper()
	sh := newShop(t, s, drill.GeometryOf(c, 8*keys+40), c)
	f := drill.Fitting{Schema: s, Numbers: numbers}
	for number := range keys {
		sh.do(api.Change{Kind: api.MPut, Key: drill.Key(number * 37 % keys), Vals: f.Record()})
		sh.do(f.Change(drill.Key(numbers.Below(keys))))
	}
	return sh
}

func (sh *shop) do(cs ...api.Change) {
	sh.t.Helper()
	if e := sh.x.Apply(cs...); e != api.OK {
		sh.t.Fatalf("Apply(%s) = %d", drill.ShownChanges(sh.s, cs), e)
	}
	sh.rows = drill.PlayChanges(sh.s, sh.rows, cs...)
}

// want: Run answers what the book says of the map's entries in the range.
func (sh *shop) want(lo, hi string, q api.Query) {
	sh.t.Helper()
	want, e := bookOver(sh.s, drill.EntriesOf(sh.rows, lo, hi), q)
	sh.wantAnswer(lo, hi, q, want, e)
}

func (sh *shop) wantAnswer(lo, hi string, q api.Query, want api.Answer, e api.Errno) {
	sh.t.Helper()
	if got, errno := query.Run(sh.x, lo, hi, q); errno != e || !sameAnswer(got, want) {
		sh.t.Fatalf("Run(%q, %q, %s) = %s, %d, want %s, %d", lo, hi, shown(q), shownAnswer(sh.s, got), errno, shownAnswer(sh.s, want), e)
	}
}

// P20.6: the examples, over a store that holds the entries.
func TestRunOfExamples(t *testing.T) {
	c := drill.Measures()[0]
	sh := newShop(t, drill.SchemaOf(exampleSchema), drill.GeometryOf(c, 128), c)
	for _, entry := range exampleEntries() {
		sh.do(api.Change{Kind: api.MPut, Key: entry.Key, Vals: entry.Vals})
	}
	for _, x := range []struct{ lo, hi, text, want string }{
		{"", "", "rows", "a b c d"}, {"", "", "rows by n down", "a c b d"}, {"a", "c", "rows", "a b"}, {"a\x00", "", "rows", "b c d"}, {"b", "b", "rows", ""}, {"d", "a", "rows", ""}, {"", "d", "sum n", "7"}, {"b", "", "where on count", "1"}, {"c", "", "min n", "-5"}, {"e", "", "min n", ""}, {"e", "", "all false", "true"}, {"", "a", "any true", "false"},
	} {
		if a, e := query.Run(sh.x, x.lo, x.hi, queryOf(x.text)); e != api.OK || told(a) != x.want {
			t.Errorf("%s from %q to %q: %s, %d, want %s", x.text, x.lo, x.hi, told(a), e, x.want)
		}
	}
}

// P20.6: queries of all kinds over ranges of all kinds, while the store is changed; and it is not changed by them.
func TestRunOverRanges(t *testing.T) {
	numbers := drill.Numbers(231)
	for i, c := range drill.Measures() {
		s := drill.Schemas()[i%2]
		sh := grown(t, s, c, &numbers, 40)
		f := drill.Fitting{Schema: s, Numbers: &numbers}
		ends := []string{"", "\x00", "\xff", strings.Repeat("\xff", 40), drill.Key(3), drill.Key(17), drill.Key(17) + "\x00", drill.Key(39)}
		for range 60 {
			image, stats, seq := sh.d.Image(), sh.d.Stats(), sh.x.Seq()
			for range 5 {
				sh.want(drill.Pick(&numbers, ends), drill.Pick(&numbers, ends), fittingQuery(f, 3))
			}
			now := sh.d.Stats()
			if !bytes.Equal(sh.d.Image(), image) || now.Writes != stats.Writes || now.Flushes != stats.Flushes || sh.x.Seq() != seq || sh.x.Mode() != api.ModeOpen {
				t.Fatalf("%v: Run changes the store", c)
			}
			sh.do(f.Change(drill.Key(numbers.Below(40))))
		}
	}
}

// P20.6: the range is asked without a limit, however many entries there are.
func TestRunWithoutALimit(t *testing.T) {
	const many = 4000
	c := api.Config{Fanout: 64, Leaf: 64, Buffer: 3000}
	sh := newShop(t, drill.SchemaOf("n:int"), drill.GeometryOf(c, 1000), c)
	for from := 0; from < many; from += api.MaxBatch {
		var cs []api.Change
		for number := range api.MaxBatch {
			cs = append(cs, api.Change{Kind: api.MPut, Key: "k" + strconv.Itoa(from+number), Vals: []api.Value{intOf(int64(from + number))}})
		}
		if e := sh.x.Apply(cs...); e != api.OK {
			t.Fatalf("Apply = %d", e)
		}
	}
	sh.wantAnswer("", "", queryOf("count"), api.Answer{Value: intOf(many)}, api.OK)
	sh.wantAnswer("", "", queryOf("sum n"), api.Answer{Value: intOf(many * (many - 1) / 2)}, api.OK)
	if a, e := query.Run(sh.x, "", "", queryOf("rows by n down")); e != api.OK || len(a.Rows) != many || a.Rows[0].Key != "k3999" || a.Rows[many-1].Key != "k0" {
		t.Errorf("rows by n down: %d rows, %d", len(a.Rows), e)
	}
}

// P20.6: Check's error for the store's schema, and then nothing is read; of a nil store ErrArg comes first.
func TestErrorsOfRun(t *testing.T) {
	numbers := drill.Numbers(232)
	sh := grown(t, drill.SchemaOf(exampleSchema), drill.Measures()[0], &numbers, 20)
	for _, x := range pool() {
		for _, q := range []api.Query{{Kind: api.QSum, Of: []api.Expr{x}}, {Kind: api.QRows, Where: []api.Expr{x}, Limit: 3}, {Kind: api.QRows, By: []api.Expr{x}, Down: true}, {Kind: api.QCount, Of: []api.Expr{x}}, {Kind: 9}, {}} {
			stats := sh.d.Stats()
			sh.want("", "", q)
			if bookCheck(sh.s, q) != api.OK && sh.d.Stats() != stats {
				t.Errorf("%s is refused, and the disk is asked", shown(q))
			}
			if a, e := query.Run(nil, "", "", q); e != api.ErrArg || !sameAnswer(a, api.Answer{}) {
				t.Errorf("Run(nil, %s) = %v, %d", shown(q), a, e)
			}
		}
	}
}

// P20.6: of a dead store Scan's error, behind Check's.
func TestRunOfADeadStore(t *testing.T) {
	numbers := drill.Numbers(233)
	sh := grown(t, drill.SchemaOf(exampleSchema), drill.Measures()[0], &numbers, 10)
	sh.d.Arm(0)
	if e := sh.x.Put("a"); e != api.ErrPower {
		t.Fatalf("Put = %d", e)
	}
	for _, text := range []string{"rows", "count", "where false count", "rows limit 0", "min n"} {
		sh.wantAnswer("", "", queryOf(text), api.Answer{}, api.ErrPower)
		sh.wantAnswer("z", "a", queryOf(text), api.Answer{}, api.ErrPower)
	}
	sh.wantAnswer("", "", queryOf("sum m"), api.Answer{}, api.ErrOptional)
	sh.wantAnswer("", "", api.Query{}, api.Answer{}, api.ErrQuery)
}

// P20.6: a read only store answers as before.
func TestRunOfAReadOnlyStore(t *testing.T) {
	c := drill.Measures()[0]
	sh := newShop(t, drill.SchemaOf(exampleSchema), drill.GeometryOf(c, 8), c)
	for number := 0; sh.x.Mode() == api.ModeOpen; number++ {
		change := drill.ChangeOf(sh.s, "put "+drill.Key(number)+" {n=1}")
		if sh.x.Apply(change) == api.OK {
			sh.rows = drill.PlayChanges(sh.s, sh.rows, change)
		}
	}
	for _, text := range []string{"rows", "count", "sum n", "rows by n down limit 2"} {
		sh.want("", "", queryOf(text))
	}
}

// P20.6, W5: over damage as Scan of the range without a limit: its error, whatever the query's limit, and no answer.
func TestRunOverDamage(t *testing.T) {
	numbers := drill.Numbers(234)
	met := map[api.Errno]int{}
	for _, c := range drill.Measures()[:4] {
		sh := grown(t, drill.SchemaOf(exampleSchema), c, &numbers, 30)
		for block := range 60 {
			undo := sh.spoil(block)
			for _, lo := range []string{"", drill.Key(9), drill.Key(25)} {
				for _, hi := range []string{"", drill.Key(12), drill.Key(29)} {
					_, e := sh.x.Scan(lo, hi, math.MaxInt)
					met[e]++
					for _, text := range []string{"rows limit 1", "count", "where false rows", "any true"} {
						q := queryOf(text)
						want, _ := bookOver(sh.s, drill.EntriesOf(sh.rows, lo, hi), q)
						if e != api.OK {
							want = api.Answer{}
						}
						sh.wantAnswer(lo, hi, q, want, e)
					}
				}
			}
			undo()
		}
	}
	if met[api.OK] < 100 || met[api.ErrDamaged] < 100 || len(met) != 2 {
		t.Errorf("Scan answered %v", met)
	}
}

// spoil: the bytes of a block are others, until undone.
func (sh *shop) spoil(block int) func() {
	from := 2 + sh.g.Log + block*sh.g.Per
	old := make([][]byte, sh.g.Per)
	for k := range old {
		old[k], _ = sh.d.Read(from + k)
		sh.d.Write(from+k, bytes.Repeat([]byte{7}, sh.g.Sector))
	}
	return func() {
		for k, b := range old {
			sh.d.Write(from+k, b)
		}
	}
}

// R10: a query asked while the store is changed tells of it as it was at one time: what goes from one key to another is never missed, nor met twice.
func TestRunAmongChanges(t *testing.T) {
	c := drill.Measures()[0]
	sh := newShop(t, drill.SchemaOf("n:int"), drill.GeometryOf(c, 256), c)
	for number := range 8 {
		sh.do(drill.ChangeOf(sh.s, "put "+drill.Key(number)+" {n=100}"))
	}
	var group sync.WaitGroup
	for worker := range 3 {
		group.Go(func() {
			numbers := drill.Numbers(240 + worker)
			for range 100 {
				from, to := drill.Key(numbers.Below(8)), drill.Key(numbers.Below(8))
				if e := sh.x.Apply(drill.ChangeOf(sh.s, "upsert "+from+" n += -7"), drill.ChangeOf(sh.s, "upsert "+to+" n += 7")); e != api.OK {
					t.Errorf("Apply = %d", e)
				}
			}
		})
	}
	for range 3 {
		group.Go(func() {
			for range 100 {
				if a, e := query.Run(sh.x, "", "", queryOf("sum n")); e != api.OK || a.Value != intOf(800) {
					t.Errorf("Run = %v, %d", a.Value, e)
				}
			}
		})
	}
	group.Wait()
}
