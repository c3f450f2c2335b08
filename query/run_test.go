package query_test

import (
	"bytes"
	"math"
	"strconv"
	"strings"
	"sync"
	"testing"

	"arbor/api"
	"arbor/drill"
	"arbor/query"
)

// shop: a store that is asked.
type shop struct {
	*drill.Shop
	t *testing.T
}

func newShop(t *testing.T, s api.Schema, c api.Config, blocks int) *shop {
	return &shop{drill.NewShop(s, c, blocks), t}
}

func grown(t *testing.T, s api.Schema, c api.Config, numbers *drill.Numbers, keys int) *shop {
	return &shop{drill.GrownShop(s, c, numbers, keys), t}
}

// want: Run answers what the book says of the map's entries in the range.
func (sh *shop) want(lo, hi string, q api.Query) {
	sh.t.Helper()
	want, e := bookOver(sh.Schema, drill.EntriesOf(sh.Rows, lo, hi), q)
	sh.wantAnswer(lo, hi, q, want, e)
}

func (sh *shop) wantAnswer(lo, hi string, q api.Query, want api.Answer, e api.Errno) {
	sh.t.Helper()
	if got, errno := query.Run(sh.Store, lo, hi, q); errno != e || !sameAnswer(got, want) {
		sh.t.Fatalf("Run(%q, %q, %s) = %s, %d, want %s, %d", lo, hi, shown(q), shownAnswer(sh.Schema, got), errno, shownAnswer(sh.Schema, want), e)
	}
}

// P20.6: the examples, over a store that holds the entries.
func TestRunOfExamples(t *testing.T) {
	c := drill.Measures()[0]
	sh := newShop(t, drill.SchemaOf(exampleSchema), c, 128)
	for _, entry := range exampleEntries() {
		sh.Do(api.Change{Kind: api.MPut, Key: entry.Key, Vals: entry.Vals})
	}
	for _, x := range []struct{ lo, hi, text, want string }{
		{"", "", "rows", "a b c d"}, {"", "", "rows by n down", "a c b d"}, {"a", "c", "rows", "a b"}, {"a\x00", "", "rows", "b c d"}, {"b", "b", "rows", ""}, {"d", "a", "rows", ""}, {"", "d", "sum n", "7"}, {"b", "", "where on count", "1"}, {"c", "", "min n", "-5"}, {"e", "", "min n", ""}, {"e", "", "all false", "true"}, {"", "a", "any true", "false"},
	} {
		if a, e := query.Run(sh.Store, x.lo, x.hi, queryOf(x.text)); e != api.OK || told(a) != x.want {
			t.Errorf("%s from %q to %q: %s, %d, want %s", x.text, x.lo, x.hi, told(a), e, x.want)
		}
	}
}

// P20.6: queries of all kinds over ranges of all kinds, while the store is changed; and it is not changed by them.
func TestRunOverRanges(t *testing.T) {
	numbers := drill.Numbers(231)
	for i, c := range drill.Measures() {
		s := drill.Schemas()[i%2]
		sh := grown(t, s, c, &numbers, 40)
		f := drill.Fitting{Schema: s, Numbers: &numbers}
		ends := []string{"", "\x00", "\xff", strings.Repeat("\xff", 40), drill.Key(3), drill.Key(17), drill.Key(17) + "\x00", drill.Key(39)}
		for range 60 {
			image, stats, seq := sh.Disk.Image(), sh.Disk.Stats(), sh.Store.Seq()
			for range 5 {
				sh.want(drill.Pick(&numbers, ends), drill.Pick(&numbers, ends), fittingQuery(f, 3))
			}
			now := sh.Disk.Stats()
			if !bytes.Equal(sh.Disk.Image(), image) || now.Writes != stats.Writes || now.Flushes != stats.Flushes || sh.Store.Seq() != seq || sh.Store.Mode() != api.ModeOpen {
				t.Fatalf("%v: Run changes the store", c)
			}
			sh.Do(f.Change(drill.Key(numbers.Below(40))))
		}
	}
}

// P20.6: the range is asked without a limit, however many entries there are.
func TestRunWithoutALimit(t *testing.T) {
	const many = 4000
	c := api.Config{Fanout: 64, Leaf: 64, Buffer: 3000}
	sh := newShop(t, drill.SchemaOf("n:int"), c, 1000)
	for from := 0; from < many; from += api.MaxBatch {
		var cs []api.Change
		for number := range api.MaxBatch {
			cs = append(cs, api.Change{Kind: api.MPut, Key: "k" + strconv.Itoa(from+number), Vals: []api.Value{intOf(int64(from + number))}})
		}
		if e := sh.Store.Apply(cs...); e != api.OK {
			t.Fatalf("Apply = %d", e)
		}
	}
	sh.wantAnswer("", "", queryOf("count"), api.Answer{Value: intOf(many)}, api.OK)
	sh.wantAnswer("", "", queryOf("sum n"), api.Answer{Value: intOf(many * (many - 1) / 2)}, api.OK)
	if a, e := query.Run(sh.Store, "", "", queryOf("rows by n down")); e != api.OK || len(a.Rows) != many || a.Rows[0].Key != "k3999" || a.Rows[many-1].Key != "k0" {
		t.Errorf("rows by n down: %d rows, %d", len(a.Rows), e)
	}
}

// P20.6: Check's error for the store's schema, and then nothing is read; of a nil store ErrArg comes first.
func TestErrorsOfRun(t *testing.T) {
	numbers := drill.Numbers(232)
	sh := grown(t, drill.SchemaOf(exampleSchema), drill.Measures()[0], &numbers, 20)
	for _, x := range pool() {
		for _, q := range []api.Query{{Kind: api.QSum, Of: []api.Expr{x}}, {Kind: api.QRows, Where: []api.Expr{x}, Limit: 3}, {Kind: api.QRows, By: []api.Expr{x}, Down: true}, {Kind: api.QCount, Of: []api.Expr{x}}, {Kind: 9}, {}} {
			stats := sh.Disk.Stats()
			sh.want("", "", q)
			if bookCheck(sh.Schema, q) != api.OK && sh.Disk.Stats() != stats {
				t.Errorf("%s is refused, and the disk is asked", shown(q))
			}
			if a, e := query.Run(nil, "", "", q); e != api.ErrArg || !sameAnswer(a, api.Answer{}) {
				t.Errorf("Run(nil, %s) = %v, %d", shown(q), a, e)
			}
		}
	}
}

// P20.6: of a dead store Scan's error, behind Check's.
func TestRunOfADeadStore(t *testing.T) {
	numbers := drill.Numbers(233)
	sh := grown(t, drill.SchemaOf(exampleSchema), drill.Measures()[0], &numbers, 10)
	drill.Kill(sh.Disk)
	for _, text := range []string{"rows", "count", "where false count", "rows limit 0", "min n"} {
		sh.wantAnswer("", "", queryOf(text), api.Answer{}, api.ErrPower)
		sh.wantAnswer("z", "a", queryOf(text), api.Answer{}, api.ErrPower)
	}
	sh.wantAnswer("", "", queryOf("sum m"), api.Answer{}, api.ErrOptional)
	sh.wantAnswer("", "", api.Query{}, api.Answer{}, api.ErrQuery)
}

// P20.6: a read only store answers as before.
func TestRunOfAReadOnlyStore(t *testing.T) {
	c := drill.Measures()[0]
	sh := newShop(t, drill.SchemaOf(exampleSchema), c, 8)
	for number := 0; sh.Store.Mode() == api.ModeOpen; number++ {
		sh.Try(drill.ChangeOf(sh.Schema, "put "+drill.Key(number)+" {n=1}"))
	}
	for _, text := range []string{"rows", "count", "sum n", "rows by n down limit 2"} {
		sh.want("", "", queryOf(text))
	}
}

// P20.6, W5: over damage as Scan of the range without a limit: its error, whatever the query's limit, and no answer.
func TestRunOverDamage(t *testing.T) {
	numbers := drill.Numbers(234)
	met := map[api.Errno]int{}
	for _, c := range drill.Measures()[:4] {
		sh := grown(t, drill.SchemaOf(exampleSchema), c, &numbers, 30)
		for block := range 60 {
			undo := sh.Spoil(block)
			for _, lo := range []string{"", drill.Key(9), drill.Key(25)} {
				for _, hi := range []string{"", drill.Key(12), drill.Key(29)} {
					_, e := sh.Store.Scan(lo, hi, math.MaxInt)
					met[e]++
					for _, text := range []string{"rows limit 1", "count", "where false rows", "any true"} {
						q := queryOf(text)
						want, _ := bookOver(sh.Schema, drill.EntriesOf(sh.Rows, lo, hi), q)
						if e != api.OK {
							want = api.Answer{}
						}
						sh.wantAnswer(lo, hi, q, want, e)
					}
				}
			}
			undo()
		}
	}
	if met[api.OK] < 100 || met[api.ErrDamaged] < 100 || len(met) != 2 {
		t.Errorf("Scan answered %v", met)
	}
}

// R10: a query asked while the store is changed tells of it as it was at one time: what goes from one key to another is never missed, nor met twice.
func TestRunAmongChanges(t *testing.T) {
	c := drill.Measures()[0]
	sh := newShop(t, drill.SchemaOf("n:int"), c, 256)
	for number := range 8 {
		sh.Do(drill.ChangeOf(sh.Schema, "put "+drill.Key(number)+" {n=100}"))
	}
	var group sync.WaitGroup
	for worker := range 3 {
		group.Go(func() {
			numbers := drill.Numbers(240 + worker)
			for range 100 {
				from, to := drill.Key(numbers.Below(8)), drill.Key(numbers.Below(8))
				if e := sh.Store.Apply(drill.ChangeOf(sh.Schema, "upsert "+from+" n += -7"), drill.ChangeOf(sh.Schema, "upsert "+to+" n += 7")); e != api.OK {
					t.Errorf("Apply = %d", e)
				}
			}
		})
	}
	for range 3 {
		group.Go(func() {
			for range 100 {
				if a, e := query.Run(sh.Store, "", "", queryOf("sum n")); e != api.OK || a.Value != intOf(800) {
					t.Errorf("Run = %v, %d", a.Value, e)
				}
			}
		})
	}
	group.Wait()
}
