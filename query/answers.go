package query

import (
	"cmp"
	"slices"

	"arbor/api"
	"arbor/fresh"
	"arbor/meaning"
)

// counted: an entry that counts, and what it is worth: the value for it of the query's Of or By, of which no query has both.
type counted struct {
	entry api.Entry
	worth api.Value
}

// countedOf: the entries that count. They share their values with those that were handed in.
func countedOf(s api.Schema, l []api.Entry, q api.Query) []counted {
	var list []counted
	looked := slices.Concat(q.Of, q.By)
	for _, entry := range l {
		// Where there is no condition it has no value, and that is not false.
		if valueFor(s, entry, q.Where) != truth(false) {
			list = append(list, counted{entry: entry, worth: valueFor(s, entry, looked)})
		}
	}
	return list
}

// valueFor: of an expression that fits, for an entry that is one of the schema; none, if there is no expression.
func valueFor(s api.Schema, entry api.Entry, exprs []api.Expr) api.Value {
	if len(exprs) == 0 {
		return api.Value{}
	}
	v, _ := meaning.Value(s, exprs[0], api.Row{Here: true, Vals: entry.Vals})
	return v
}

// rows: the entries themselves, in new memory.
func rows(q api.Query, list []counted) api.Answer {
	if len(q.By) > 0 {
		slices.SortStableFunc(list, inOrder(q))
	}
	if q.Limit >= 0 {
		list = list[:min(q.Limit, len(list))]
	}
	var entries []api.Entry
	for _, one := range list {
		entries = append(entries, one.entry)
	}
	return api.Answer{Rows: fresh.Entries(entries)}
}

// inOrder: how the rows of a query stand to each other; keys rise whichever way the values go.
func inOrder(q api.Query) func(a, b counted) int {
	return func(a, b counted) int {
		way := compare(a.worth, b.worth)
		if q.Down {
			way = -way
		}
		return cmp.Or(way, cmp.Compare(a.entry.Key, b.entry.Key))
	}
}

// compare: ints by their size, false below true, bytes bytewise. What a type does not use is zero in both values, so that the other part alone decides.
func compare(a, b api.Value) int {
	return cmp.Or(cmp.Compare(a.N, b.N), cmp.Compare(a.S, b.S))
}

// valued: the answer of a verb that makes one value of what the entries are worth.
func valued(of func(values []api.Value) api.Value) func(q api.Query, list []counted) api.Answer {
	return func(_ api.Query, list []counted) api.Answer {
		values := make([]api.Value, len(list))
		for i, one := range list {
			values[i] = one.worth
		}
		return api.Answer{Value: of(values)}
	}
}

func count(values []api.Value) api.Value { return number(int64(len(values))) }

func sum(values []api.Value) api.Value {
	var n int64
	for _, v := range values {
		n += v.N
	}
	return number(n)
}

func least(values []api.Value) api.Value {
	if len(values) == 0 {
		return api.Value{}
	}
	return slices.MinFunc(values, compare)
}

func greatest(values []api.Value) api.Value {
	if len(values) == 0 {
		return api.Value{}
	}
	return slices.MaxFunc(values, compare)
}

func anyTrue(values []api.Value) api.Value { return truth(slices.Contains(values, truth(true))) }
func allTrue(values []api.Value) api.Value { return truth(!slices.Contains(values, truth(false))) }

func number(n int64) api.Value { return api.Value{Kind: api.Int, N: n} }

func truth(is bool) api.Value {
	if is {
		return api.Value{Kind: api.Bool, N: 1}
	}
	return api.Value{Kind: api.Bool}
}
