package query_test

import (
	"slices"
	"testing"

	"arbor/api"
	"arbor/drill"
	"arbor/query"
)

var (
	spareValue = api.Value{Kind: 77, N: 77, S: "spare"}
	spareField = api.Field{Name: "spare"}
)

// copied: the same query in other memory, with marked room behind its lists.
func copied(q api.Query) api.Query {
	q.Where, q.Of, q.By = drill.CopiedExprs(q.Where), drill.CopiedExprs(q.Of), drill.CopiedExprs(q.By)
	return q
}

// untouched: is what copied gave still the same as the query that it was given?
func untouched(given, q api.Query) bool {
	return sameQuery(given, q) && drill.UntouchedExprs(given.Where) && drill.UntouchedExprs(given.Of) && drill.UntouchedExprs(given.By)
}

// roomy: the same entries in other memory, with marked room behind their lists.
func roomy(l []api.Entry) []api.Entry {
	list := drill.Roomy(l, api.Entry{Key: "spare"})
	for i, entry := range l {
		list[i].Vals = drill.Roomy(entry.Vals, spareValue)
	}
	return list
}

func asItWas(given, entry api.Entry) bool {
	return given.Key == entry.Key && drill.AsItWas(given.Vals, entry.Vals, spareValue)
}

// P20.7, R5: entries, queries and schemas that are handed in are not changed, nor is the spare room of their lists.
func TestArgumentsAreNotChanged(t *testing.T) {
	numbers := drill.Numbers(251)
	for _, s := range drill.Schemas() {
		fitting := drill.Fitting{Schema: s, Numbers: &numbers}
		fields := drill.Roomy(s.Fields, spareField)
		given := api.Schema{Fields: fields}
		for i := range 1000 {
			q := fittingQuery(fitting, 3)
			if i%4 == 0 {
				q = anyQuery(fitting, 3)
			}
			l := anyEntries(fitting, 6)
			if i%16 == 0 {
				l = append(l, api.Entry{Key: "wrong"})
			}
			asked, list := copied(q), roomy(l)
			query.Print(asked)
			query.Check(given, asked)
			query.Over(given, list, asked)
			if !untouched(asked, q) {
				t.Fatalf("a query was changed: %s, it was %s", shown(asked), shown(q))
			}
			if !slices.EqualFunc(list, l, asItWas) || list[:len(l)+1][len(l)].Key != "spare" {
				t.Fatalf("%s changed entries: %s, they were %s", shown(q), drill.ShownEntries(s, list), drill.ShownEntries(s, l))
			}
			if !drill.AsItWas(fields, s.Fields, spareField) {
				t.Fatalf("a schema was changed: %+v, it was %+v", fields, s.Fields)
			}
		}
	}
}

// P20.7: rows that are answered are new memory: they share none with the entries, with one another, or with those of another answer.
func TestAnswersShareNothing(t *testing.T) {
	s := drill.SchemaOf(exampleSchema)
	for _, text := range []string{"rows", "rows limit 2", "rows by n", "rows by n down limit 3", "where on rows", "where true rows by 1"} {
		q := queryOf(text)
		l := exampleEntries()
		l = append(l, l[0], l[1]) // entries that share their values
		first, _ := query.Over(s, l, q)
		second, _ := query.Over(s, l, q)
		want, _ := bookOver(s, l, q)
		lists := [][]api.Value{l[0].Vals, l[1].Vals, l[2].Vals, l[3].Vals}
		for _, row := range slices.Concat(first.Rows, second.Rows) {
			lists = append(lists, row.Vals)
		}
		if drill.AnyTwoShare(lists) || drill.AnyTwoShare([][]api.Entry{l, first.Rows, second.Rows}) {
			t.Errorf("%s: lists share memory", text)
		}
		for _, row := range first.Rows {
			drill.Overwrite(row.Vals, spareValue)
		}
		drill.Overwrite(first.Rows, api.Entry{Key: "spare"})
		if !sameAnswer(second, want) {
			t.Errorf("%s: what was done to one answer is seen in another", text)
		}
		wantAnswer(t, s, l, q, want, api.OK)
	}
}

// P20.7, P20.6: likewise what comes out of a store.
func TestAnswersOfAStoreShareNothing(t *testing.T) {
	numbers := drill.Numbers(252)
	sh := grown(t, drill.SchemaOf(exampleSchema), drill.Measures()[1], &numbers, 20)
	for _, text := range []string{"rows", "rows by n down", "where n > 0 rows limit 5"} {
		first, _ := query.Run(sh.Store, "", "", queryOf(text))
		second, _ := query.Run(sh.Store, "", "", queryOf(text))
		var lists [][]api.Value
		for _, row := range slices.Concat(first.Rows, second.Rows) {
			lists = append(lists, row.Vals)
		}
		if drill.AnyTwoShare(lists) || drill.Shares(first.Rows, second.Rows) {
			t.Errorf("%s: lists share memory", text)
		}
		for _, list := range lists {
			drill.Overwrite(list, spareValue)
		}
		sh.want("", "", queryOf(text))
	}
}

// R5: no two lists of a query that was parsed share memory, nor do those of two answers.
func TestParsedQueriesShareNothing(t *testing.T) {
	for _, text := range []string{"where n + n > n * n and on rows by n * n down limit 3", "where on and on any on and on", "min min(n, n) + min(n, n)"} {
		first, _, _ := query.Parse(text)
		second, _, _ := query.Parse(text)
		want := queryOf(text)
		var lists [][]api.Expr
		for _, q := range []api.Query{first, second} {
			for _, part := range [][]api.Expr{q.Where, q.Of, q.By} {
				lists = append(lists, part)
				for _, x := range drill.ExprParts(part) {
					lists = append(lists, x.Kids)
				}
			}
		}
		if drill.AnyTwoShare(lists) {
			t.Errorf("Parse(%q): lists share memory", text)
		}
		for _, part := range [][]api.Expr{first.Where, first.Of, first.By} {
			for _, x := range drill.ExprParts(part) {
				*x = api.Expr{Op: 99}
			}
		}
		if !sameQuery(second, want) {
			t.Errorf("Parse(%q): what was done to one answer is seen in another", text)
		}
		wantQuery(t, text, want, api.OK, 0)
	}
}

// R4: a list that is nil and one without elements are the same.
func TestEmptyListsAreNone(t *testing.T) {
	s := drill.SchemaOf(exampleSchema)
	none := []api.Expr{}
	bare := api.Expr{Op: api.EHere, Kids: none}
	for _, q := range []api.Query{
		{Kind: api.QRows, Where: none, Of: none, By: none}, {Kind: api.QCount, Where: none, Of: none, By: none}, {Kind: api.QCount, Where: []api.Expr{bare}}, {Kind: api.QAny, Where: none, Of: []api.Expr{bare}, By: none},
		{Kind: api.QRows, By: none, Down: true}, {Kind: api.QSum, Of: none},
	} {
		wantPrint(t, q)
		wantCheck(t, s, q)
		for _, l := range [][]api.Entry{nil, {}, exampleEntries()} {
			wantOver(t, s, l, q)
		}
	}
}

// R2, R6: what was asked before, and refused, does not matter.
func TestCallsKnowNothingOfOneAnother(t *testing.T) {
	ints, texts := drill.SchemaOf("n:int,m:int?"), drill.SchemaOf("m:bytes,n:bytes?")
	for range 3 {
		for _, text := range []string{"rows by n down", "where n", "rows by", "any " + "not not not not not not not not not not not not here", "rows", "sum n", "max m", "count"} {
			wantParse(t, text)
			q, _, _ := query.Parse(text)
			wantOver(t, ints, entriesOf(ints, "a {n=1}", "b {n=2,m=1}"), q)
			wantOver(t, texts, entriesOf(texts, `a {m="x"}`, `b {m="y",n=""}`), q)
			wantOver(t, texts, entriesOf(ints, "a {n=1}"), q)
		}
	}
}
