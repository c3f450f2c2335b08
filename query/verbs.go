package query

import (
	"slices"

	"arbor/api"
)

// The words of a query beside its verbs.
const (
	wordWhere = "where"
	wordBy    = "by"
	wordDown  = "down"
	wordLimit = "limit"
)

// verb: a row of the table of verbs.
type verb struct {
	kind   int // of the queries that have it
	token  int // its word's kind of token: min and max are keywords, the others are names
	word   string
	of     []int                                        // the types that Of may be of; none: there is no Of
	answer func(q api.Query, list []counted) api.Answer // what comes of the entries that count
}

func verbs() []verb {
	return []verb{
		{kind: api.QRows, token: api.TokName, word: "rows", answer: rows},
		{kind: api.QCount, token: api.TokName, word: "count", answer: valued(count)},
		{kind: api.QSum, token: api.TokName, word: "sum", of: []int{api.Int}, answer: valued(sum)},
		{kind: api.QMin, token: api.TokWord, word: "min", of: []int{api.Int, api.Bytes}, answer: valued(least)},
		{kind: api.QMax, token: api.TokWord, word: "max", of: []int{api.Int, api.Bytes}, answer: valued(greatest)},
		{kind: api.QAny, token: api.TokName, word: "any", of: []int{api.Bool}, answer: valued(anyTrue)},
		{kind: api.QAll, token: api.TokName, word: "all", of: []int{api.Bool}, answer: valued(allTrue)},
	}
}

// verbOf: the verb of a query, if that is well made.
func verbOf(q api.Query) (verb, bool) {
	list := verbs()
	at := slices.IndexFunc(list, func(v verb) bool { return v.kind == q.Kind })
	if at < 0 {
		return verb{}, false
	}
	v := list[at]
	return v, v.fits(q)
}

// fits: has a query of the verb's kind just the parts that it may have, whatever its expressions are?
func (v verb) fits(q api.Query) bool {
	if len(q.Where) > 1 || len(q.By) > 1 || len(q.Of) != min(len(v.of), 1) {
		return false
	}
	if v.kind != api.QRows {
		return len(q.By) == 0 && !q.Down && q.Limit == 0
	}
	return len(q.By) == 1 || !q.Down
}
