package query_test

import (
	"math"
	"slices"
	"strconv"
	"strings"
	"testing"

	"arbor/api"
	"arbor/drill"
	"arbor/query"
)

// fittingQuery: of any kind, that fits the schema.
func fittingQuery(f drill.Fitting, deep int) api.Query {
	q := api.Query{Kind: 1 + f.Numbers.Below(7)}
	if f.Numbers.Below(3) > 0 {
		q.Where = []api.Expr{f.Expr(api.Bool, deep)}
	}
	switch q.Kind {
	case api.QRows:
		q.Limit = drill.Pick(f.Numbers, []int{-1, -1, -9, 0, 1, 2, 5, 9, 1<<63 - 1})
		if f.Numbers.Below(3) > 0 {
			q.By, q.Down = []api.Expr{f.Expr(1+f.Numbers.Below(3), deep)}, f.Numbers.Below(2) == 0
		}
	case api.QSum:
		q.Of = []api.Expr{f.Expr(api.Int, deep)}
	case api.QMin, api.QMax:
		q.Of = []api.Expr{f.Expr(drill.Pick(f.Numbers, []int{api.Int, api.Bytes}), deep)}
	case api.QAny, api.QAll:
		q.Of = []api.Expr{f.Expr(api.Bool, deep)}
	}
	return q
}

// anyKeys: texts of all kinds, such that no store has among them.
var anyKeys = []string{"", "a", "aa", "ab", "b", "B", "\x00", "\xff", "é", "a\x00", strings.Repeat("z", 16), strings.Repeat("z", 17), strings.Repeat("z", 1000)}

// anyEntries: up to so many, some with the same keys.
func anyEntries(f drill.Fitting, most int) []api.Entry {
	var list []api.Entry
	for range f.Numbers.Below(most + 1) {
		list = append(list, api.Entry{Key: drill.Pick(f.Numbers, anyKeys), Vals: f.Record()})
	}
	return list
}

// P20.5: queries of all kinds over lists of all kinds.
func TestOverAnyEntries(t *testing.T) {
	numbers := drill.Numbers(211)
	for _, s := range drill.Schemas() {
		fitting := drill.Fitting{Schema: s, Numbers: &numbers}
		met := map[string]int{}
		for i := range 6000 {
			q, l := fittingQuery(fitting, 1+i%4), anyEntries(fitting, 9)
			wantOver(t, s, l, q)
			a, _ := query.Over(s, l, q)
			met[strconv.Itoa(q.Kind)+" "+strconv.Itoa(a.Value.Kind)+" "+strconv.Itoa(len(a.Rows))]++
		}
		for _, what := range []string{"1 0 0", "1 0 1", "1 0 5", "1 0 8", "2 1 0", "3 1 0", "4 0 0", "4 1 0", "4 3 0", "5 0 0", "5 1 0", "5 3 0", "6 2 0", "7 2 0"} {
			if met[what] < 20 {
				t.Errorf("kind, type and number of rows %s: %d times", what, met[what])
			}
		}
	}
}

// P20.5: every short list of entries with few keys and few values: of the same keys and values, all that is told of them apart is another field.
func TestOverEveryShortList(t *testing.T) {
	s := drill.SchemaOf("n:int,m:int?")
	kinds := entriesOf(s, "a {n=1}", "b {n=1}", "a {n=2}", "b {n=1,m=0}", "b {n=0}")
	var queries []api.Query
	for text := range strings.SplitSeq("rows;rows limit 2;rows by n;rows by n down;rows by n limit 2;rows by -n limit 3;rows by n down limit 1;rows by 1;rows by has m down;where n > 0 rows by n;where n == 1 rows by m ?? 7;count;where n == 1 count;sum n;min n;max n;where has m min n;any n == 2;all n == 1;where n < 1 all false", ";") {
		queries = append(queries, queryOf(text))
	}
	for length := range 5 {
		drill.Scripts(kinds, length, func(l []api.Entry) {
			for _, q := range queries {
				wantOver(t, s, l, q)
			}
		})
	}
}

// P20.5: ints by size, false below true, bytes bytewise: sorted both ways, the least and the greatest.
func TestOrderOfValues(t *testing.T) {
	s := drill.SchemaOf("n:int,on:bool,b:bytes")
	var l []api.Entry
	for _, n := range drill.Values(api.Int) {
		for _, on := range drill.Values(api.Bool) {
			for _, b := range drill.Values(api.Bytes) {
				l = append(l, api.Entry{Key: strconv.Itoa(len(l) * 7 % 31), Vals: []api.Value{n, on, b}})
			}
		}
	}
	for text := range strings.SplitSeq("rows by n;rows by n down;rows by on;rows by on down;rows by b;rows by b down;min n;max n;min b;max b;rows by not on limit 9;rows by len(b) down limit 100", ";") {
		wantOver(t, s, l, queryOf(text))
	}
	for b := range 256 {
		one := []api.Entry{{Key: "x", Vals: []api.Value{intOf(0), boolOf(false), bytesOf(string([]byte{byte(b)}))}}}
		for _, other := range []string{"", "\x00", "a", "\x7f", "\x80", "\xff", string([]byte{byte(b), 0})} {
			two := append(one, api.Entry{Key: "y", Vals: []api.Value{intOf(0), boolOf(true), bytesOf(other)}})
			wantOver(t, s, two, queryOf("rows by b"))
			wantOver(t, s, two, queryOf("max b"))
			wantOver(t, s, []api.Entry{{Key: "k" + string([]byte{byte(b)}), Vals: one[0].Vals}, {Key: "k" + other, Vals: one[0].Vals}}, queryOf("rows by n down"))
		}
	}
}

// P20.5: sums wrap round.
func TestSumsWrapRound(t *testing.T) {
	s := drill.SchemaOf("n:int")
	for _, x := range []struct {
		ns   []int64
		want int64
	}{
		{nil, 0},
		{[]int64{math.MaxInt64, 1}, math.MinInt64},
		{[]int64{math.MinInt64, -1}, math.MaxInt64},
		{[]int64{math.MinInt64, math.MinInt64}, 0},
		{[]int64{math.MaxInt64, math.MaxInt64, math.MaxInt64}, math.MaxInt64 - 2},
		{[]int64{1 << 62, 1 << 62, 1 << 62, 1 << 62, 5}, 5},
	} {
		var l []api.Entry
		for _, n := range x.ns {
			l = append(l, api.Entry{Vals: []api.Value{intOf(n)}})
		}
		wantAnswer(t, s, l, queryOf("sum n"), api.Answer{Value: intOf(x.want)}, api.OK)
	}
}

// P20.5: over no entry, and over none that counts.
func TestOverNone(t *testing.T) {
	s := drill.SchemaOf(exampleSchema)
	for text, want := range map[string]api.Value{
		"rows": {}, "rows by n": {}, "rows limit 5": {}, "count": intOf(0), "sum n": intOf(0), "min n": {}, "max n": {}, `min tag ?? "a"`: {}, `max tag ?? "a"`: {}, "any true": boolOf(false), "any false": boolOf(false), "all false": boolOf(true), "all true": boolOf(true),
	} {
		for _, l := range [][]api.Entry{nil, {}, exampleEntries()[:0]} {
			wantAnswer(t, s, l, queryOf(text), api.Answer{Value: want}, api.OK)
			wantAnswer(t, s, l, queryOf("where true "+text), api.Answer{Value: want}, api.OK)
		}
		wantAnswer(t, s, exampleEntries(), queryOf("where n > 9 "+text), api.Answer{Value: want}, api.OK)
	}
}

// P20.5: limits of all sizes, and none.
func TestLimitsOfRows(t *testing.T) {
	s := drill.SchemaOf(exampleSchema)
	for _, limit := range []int{0, 1, 2, 3, 4, 5, math.MaxInt, -1, -2, math.MinInt} {
		for _, text := range []string{"rows", "rows by n", "rows by n down", "where on rows", "where n > 9 rows"} {
			q := queryOf(text)
			q.Limit = limit
			wantOver(t, s, exampleEntries(), q)
		}
	}
}

// P20.5: an entry whose values are no record, wherever it stands, though no condition holds for it and no limit reaches it; but behind Check's error.
func TestWrongEntries(t *testing.T) {
	for _, s := range drill.Schemas() {
		for _, vals := range drill.WrongRecords(s) {
			right := api.Entry{Key: "a", Vals: drill.Records(s)[0]}
			wrong := api.Entry{Key: "b", Vals: vals}
			for _, l := range [][]api.Entry{{wrong}, {wrong, right}, {right, wrong}, {right, wrong, right}} {
				for _, text := range []string{"rows", "rows limit 0", "rows by n", "where false rows", "count", "where false count", "sum n", "min n", "any true", "all false"} {
					wantAnswer(t, s, l, queryOf(text), api.Answer{}, api.ErrValue)
				}
				wantAnswer(t, s, l, queryOf("sum on"), api.Answer{}, api.ErrType)
				wantAnswer(t, s, l, queryOf("where x rows"), api.Answer{}, api.ErrField)
				wantAnswer(t, s, l, api.Query{}, api.Answer{}, api.ErrQuery)
			}
		}
	}
}

// P20.5: the record is there, in every expression.
func TestEntriesAreHere(t *testing.T) {
	s := drill.SchemaOf(exampleSchema)
	for text, want := range map[string]string{
		"all here": "true", "where here count": "4", "where not here count": "0", "any not here": "false", "sum pick(here, n, 100)": "2", "sum m ?? -1": "4", "where has tag rows": "c", "rows by m ?? n": "d a c b",
	} {
		if a, e := query.Over(s, exampleEntries(), queryOf(text)); e != api.OK || told(a) != want {
			t.Errorf("%s: %s, %d, want %s", text, told(a), e, want)
		}
	}
}

// R1: long lists, long keys, and expressions as great as may be.
func TestGreatThings(t *testing.T) {
	s := drill.SchemaOf(exampleSchema)
	numbers := drill.Numbers(212)
	long := make([]api.Entry, 1<<16)
	vals := exampleEntries()
	for i := range long {
		long[i] = api.Entry{Key: strings.Repeat("k", numbers.Below(5)), Vals: vals[numbers.Below(4)].Vals}
	}
	for _, text := range []string{"rows by n down", "where on rows by tag ?? \"\" limit 10", "rows"} {
		q := queryOf(text)
		a, e := query.Over(s, long, q)
		if e != api.OK || !slices.IsSortedFunc(a.Rows, func(a, b api.Entry) int {
			if len(q.By) > 0 && bookAhead(s, b, a, q) {
				return 1
			}
			return 0
		}) {
			t.Errorf("%s over a long list: %d rows, %d", text, len(a.Rows), e)
		}
	}
	wantOver(t, s, long, queryOf("sum n"))
	wantOver(t, s, long, queryOf("where has m count"))
	wantOver(t, s, []api.Entry{{Key: strings.Repeat("k", 1<<20), Vals: vals[0].Vals}, {Key: strings.Repeat("k", 1<<20-1), Vals: vals[0].Vals}}, queryOf("rows by n"))
	sum, all := drill.Number(3), drill.Field("on")
	for range api.MaxDepth - 1 {
		sum, all = drill.Tree(api.EAdd, sum, sum), drill.Tree(api.EPick, all, all, all)
	}
	wantAnswer(t, s, exampleEntries(), api.Query{Kind: api.QSum, Where: []api.Expr{all}, Of: []api.Expr{sum}}, api.Answer{Value: intOf(2 * 3 << 11)}, api.OK)
	if text, e := query.Print(api.Query{Kind: api.QSum, Of: []api.Expr{sum}}); e != api.OK || len(text) < 1<<12 {
		t.Errorf("Print of a great sum: %d bytes, %d", len(text), e)
	}
}
