package query_test

import (
	"math"
	"slices"
	"strings"
	"testing"

	"arbor/api"
	"arbor/drill"
	"arbor/query"
)

// times: a list of so many of one expression.
func times(count int, src string) []api.Expr {
	return slices.Repeat([]api.Expr{drill.ExprOf(src)}, count)
}

// P20.2, P20.4: every number of expressions in every part, with Down and Limit, of every kind and of none.
func TestEveryMake(t *testing.T) {
	s := drill.SchemaOf(exampleSchema)
	made := 0
	for kind := -2; kind < 11; kind++ {
		drill.Scripts([]int{0, 1, 2, 3}, 3, func(counts []int) {
			for _, down := range []bool{false, true} {
				for _, limit := range []int{0, 1, 7, -1, -7, math.MaxInt, math.MinInt} {
					for _, of := range []string{"n", "on"} {
						q := api.Query{Kind: kind, Where: times(counts[0], "on"), Of: times(counts[1], of), By: times(counts[2], "n"), Down: down, Limit: limit}
						wantCheck(t, s, q)
						wantPrint(t, q)
						if bookWellMade(q) {
							made++
						}
					}
				}
			}
		})
	}
	// Of rows 2 with a condition or none, times 7 limits, times without By, with it, and downwards; of the other six kinds 2 each; all twice.
	if want := 2 * (2*7*3 + 6*2); made != want {
		t.Errorf("%d queries are well made, want %d", made, want)
	}
	for _, kind := range []int{math.MinInt, math.MaxInt, 1 << 32, 1<<32 + api.QCount, 256 + api.QCount, -api.QCount} {
		wantCheck(t, s, api.Query{Kind: kind})
		wantPrint(t, api.Query{Kind: kind})
	}
}

// P20.2, P20.4: whether it is well made comes ahead of what the expressions are, and hangs on their number alone.
func TestWellMadeIsLookedAtFirst(t *testing.T) {
	s := drill.SchemaOf(exampleSchema)
	wrong := slices.Repeat([]api.Expr{{Op: 99}}, 1<<17)
	for _, q := range []api.Query{
		{Kind: api.QRows, Where: wrong[:2]}, {Kind: api.QRows, Where: wrong}, {Kind: api.QRows, By: wrong}, {Kind: api.QRows, Of: wrong[:1]}, {Kind: api.QRows, Where: wrong[:1], Down: true},
		{Kind: api.QCount, Of: wrong}, {Kind: api.QCount, Where: wrong[:1], Limit: 1}, {Kind: api.QSum, Of: wrong}, {Kind: api.QMax, Where: wrong[:1]}, {Kind: api.QAll, Of: wrong[:1], By: wrong[:1]}, {Kind: 9, Where: wrong[:1], Of: wrong[:1]},
	} {
		text, e := query.Print(q)
		if errno := query.Check(s, q); errno != api.ErrQuery || e != api.ErrQuery || text != "" {
			t.Errorf("of %s: Check = %d, Print = %.20q, %d", shown(q), errno, text, e)
		}
	}
}

// pool: expressions of all types, plain and optional, and such that do not fit or are no trees.
func pool() []api.Expr {
	var list []api.Expr
	for src := range strings.SplitSeq(`on;has m;true;n;-5;m ?? 1;"a";tag ?? "";m;tag;off;x;has x;has n;n + on;m + 1;tag ?? x;n < "a"`, ";") {
		list = append(list, drill.ExprOf(src))
	}
	return append(list, api.Expr{}, api.Expr{Op: 99, Kids: times(1, "x")}, drill.Nested(api.ENot, 11, drill.Field("on")), drill.Nested(api.ENot, 12, drill.Field("on")), drill.Nested(api.ENot, 12, api.Expr{}))
}

// P20.2, P20.4: every kind with every two expressions: which types are wanted where, and the order of the errors.
func TestEveryTwoExpressions(t *testing.T) {
	met := map[api.Errno]int{}
	s := drill.SchemaOf("n:int,m:int?,on:bool,off:bool?,tag:bytes?")
	ask := func(q api.Query) {
		wantCheck(t, s, q)
		wantPrint(t, q)
		wantOver(t, s, entriesOf(s, "a {n=1}", "b {on=true}"), q)
		met[query.Check(s, q)]++
	}
	for _, x := range pool() {
		where := []api.Expr{x}
		ask(api.Query{Kind: api.QRows, Where: where})
		ask(api.Query{Kind: api.QCount, Where: where})
		for _, y := range pool() {
			other := []api.Expr{y}
			for kind := api.QSum; kind <= api.QAll; kind++ {
				ask(api.Query{Kind: kind, Of: other})
				ask(api.Query{Kind: kind, Where: where, Of: other})
			}
			ask(api.Query{Kind: api.QRows, By: other, Down: true})
			ask(api.Query{Kind: api.QRows, Where: where, By: other})
		}
	}
	for _, e := range []api.Errno{api.OK, api.ErrTree, api.ErrDepth, api.ErrField, api.ErrType, api.ErrOptional} {
		if met[e] < 50 {
			t.Errorf("%d queries answered %d", met[e], e)
		}
	}
}

// P20.4: which fields each part takes: those of the types that are wanted, if they are plain.
func TestWantedTypes(t *testing.T) {
	for text, wanted := range map[string][]int{
		"where # rows": {api.Bool}, "where # count": {api.Bool}, "where # sum n": {api.Bool}, "where # all on": {api.Bool},
		"sum #": {api.Int}, "min #": {api.Int, api.Bytes}, "max #": {api.Int, api.Bytes}, "any #": {api.Bool}, "all #": {api.Bool},
		"rows by #": {api.Int, api.Bool, api.Bytes}, "where on rows by # down limit 1": {api.Int, api.Bool, api.Bytes},
	} {
		for _, s := range drill.Schemas() {
			for _, f := range s.Fields {
				want := api.OK
				if !slices.Contains(wanted, f.Type) {
					want = api.ErrType
				} else if f.Optional {
					want = api.ErrOptional
				}
				if e := query.Check(s, queryOf(strings.ReplaceAll(text, "#", f.Name))); e != want {
					t.Errorf("Check of %s with %s = %d, want %d", text, f.Name, e, want)
				}
			}
			if e := query.Check(s, queryOf(strings.ReplaceAll(text, "#", "x"))); e != api.ErrField {
				t.Errorf("Check of %s with x = %d", text, e)
			}
		}
	}
}

// P20.4, P20.5, R9: a schema that is none comes ahead of all.
func TestWrongSchemas(t *testing.T) {
	entries := exampleEntries()
	for _, s := range drill.WrongSchemas() {
		for _, q := range []api.Query{{}, {Kind: 9}, {Kind: api.QCount}, {Kind: api.QCount, Limit: 1}, {Kind: api.QSum, Of: times(1, "x")}, {Kind: api.QSum, Of: []api.Expr{{}}}} {
			if e := query.Check(s, q); e != api.ErrSchema {
				t.Errorf("Check(%s) = %d", shown(q), e)
			}
			for _, l := range [][]api.Entry{nil, entries, {{}}} {
				if a, e := query.Over(s, l, q); e != api.ErrSchema || !sameAnswer(a, api.Answer{}) {
					t.Errorf("Over(%s) = %v, %d", shown(q), a, e)
				}
			}
		}
	}
}

// P20.2, P20.4: what is no tree, or too deep, in each part, ahead of what stands in the parts behind it.
func TestWrongTrees(t *testing.T) {
	s := drill.SchemaOf(exampleSchema)
	for _, w := range drill.WrongExprs() {
		wrong := []api.Expr{w.Part}
		for _, q := range []api.Query{
			{Kind: api.QRows, Where: wrong}, {Kind: api.QRows, By: wrong}, {Kind: api.QRows, Where: times(1, "on"), By: wrong}, {Kind: api.QRows, Where: wrong, By: []api.Expr{{}}}, {Kind: api.QRows, Where: wrong, By: []api.Expr{drill.Nested(api.ENot, 12, drill.Here())}},
			{Kind: api.QCount, Where: wrong}, {Kind: api.QMin, Of: wrong}, {Kind: api.QAny, Where: wrong, Of: []api.Expr{{}}}, {Kind: api.QSum, Where: times(1, "on"), Of: wrong}, {Kind: api.QSum, Where: wrong, Of: times(1, "x")},
		} {
			text, e := query.Print(q)
			if errno := query.Check(s, q); errno != w.Errno || e != w.Errno || text != "" {
				t.Errorf("of %s: Check = %d, Print = %.20q, %d, want %d", shown(q), errno, text, e, w.Errno)
			}
		}
	}
	// An expression that does not fit is no fault for Print, and for Check it comes ahead of a wrong tree behind it.
	q := api.Query{Kind: api.QSum, Where: times(1, "x"), Of: []api.Expr{{}}}
	text, e := query.Print(q)
	if errno := query.Check(s, q); errno != api.ErrField || e != api.ErrTree || text != "" {
		t.Errorf("Check = %d, Print = %q, %d", errno, text, e)
	}
}

// P20.2, P20.3: queries of all kinds are printed as the grammar has them, and parsed back.
func TestPrintOfAnyQuery(t *testing.T) {
	numbers := drill.Numbers(203)
	long := 0
	for _, s := range drill.Schemas() {
		fitting := drill.Fitting{Schema: s, Numbers: &numbers}
		for i := range 3000 {
			q := anyQuery(fitting, 1+i%6)
			wantPrint(t, q)
			wantCheck(t, s, q)
			if text, _ := query.Print(q); len(text) > api.MaxSource {
				long++
			}
		}
	}
	if long < 50 {
		t.Errorf("%d texts are longer than a source may be", long)
	}
}

// P20.3: what was parsed is printed plainly, and so it is parsed as the same query.
func TestPlainTexts(t *testing.T) {
	for text, plain := range map[string]string{
		"where(n>0)rows by(n)down limit 0x10": "where n > 0 rows by n down limit 16",
		"min(min(n,m))":                       "min min(n, m)",
		"sum - 5":                             "sum -5",
		"all((on))":                           "all on",
		"where has m#\ncount":                 "where has m count",
		"rows limit 1_0":                      "rows limit 10",
		`max"é"`:                              `max "\xc3\xa9"`,
	} {
		q, e, _ := query.Parse(text)
		if got, errno := query.Print(q); e != api.OK || errno != api.OK || got != plain {
			t.Errorf("Print of %q = %q, %d, %d, want %q", text, got, e, errno, plain)
		}
		wantParse(t, text)
		wantParse(t, plain)
	}
}

// P20.2, P20.3: what is printed may be longer than the text that was parsed, and than a source may be.
func TestLongerPlainTexts(t *testing.T) {
	text := "where " + strings.Repeat(`"`+strings.Repeat("é", 10)+`"==t or `, 6) + "on rows"
	q, e, _ := query.Parse(text)
	plain, errno := query.Print(q)
	if e != api.OK || errno != api.OK || len(plain) <= api.MaxSource {
		t.Fatalf("Parse = %d; Print = %q, %d", e, plain, errno)
	}
	wantPrint(t, q)
	wantQuery(t, plain, api.Query{}, api.ErrSource, 0)
}
