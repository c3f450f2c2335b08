package query_test

import (
	"math/big"
	"slices"
	"strconv"
	"strings"
	"testing"

	"arbor/api"
	"arbor/drill"
	"arbor/lexer"
	"arbor/meaning"
	"arbor/query"
	"arbor/syntax"
	"arbor/typing"
	"arbor/value"
)

// The book: what the chapter says, told in its own order and without haste.

// The chapter's grammar of queries, word by word.
const bookGrammar = `
query = [ "where" expr ] verb .
verb  = "rows" [ "by" expr [ "down" ] ] [ "limit" number ]
      | "count" | "sum" expr | "min" expr | "max" expr | "any" expr | "all" expr .
` + drill.ExprGrammar

var ofQueries = drill.GrammarOf(bookGrammar, "query")

// bookVerbs: by kind.
var bookVerbs = strings.Fields("none rows count sum min max any all")

// Parse: which tokens are a query the grammar tells; what they mean is found by cutting them in every way there is, of which just one is right.

func bookParse(text string) (api.Query, api.Errno, int) {
	tokens, e, at := lexer.Lex(text)
	if e != api.OK {
		return api.Query{}, e, at
	}
	if place, right := ofQueries.Place(tokens, len(text)); !right {
		return api.Query{}, api.ErrQuery, place
	}
	found := (&cuts{text: text, tokens: tokens}).ways()
	if len(found) != 1 {
		panic("the book reads " + text + " in " + strconv.Itoa(len(found)) + " ways")
	}
	if found[0].deep {
		return api.Query{}, api.ErrDepth, 0
	}
	return found[0].q, api.OK, 0
}

// cuts: the tokens of a text.
type cuts struct {
	text   string
	tokens []api.Token
}

// way: what a text may mean, and whether an expression of it is too deep.
type way struct {
	q    api.Query
	deep bool
}

func (c *cuts) is(at, kind int, text string) bool {
	return at < len(c.tokens) && c.tokens[at].Kind == kind && c.tokens[at].Text == text
}

// expr: the expression that the tokens from one on up to another one are.
func (c *cuts) expr(from, to int) (tree []api.Expr, deep, ok bool) {
	if from >= to {
		return nil, false, false
	}
	end := len(c.text)
	if to < len(c.tokens) {
		end = c.tokens[to].At
	}
	x, e, _ := syntax.ParseExpr(c.text[c.tokens[from].At:end])
	return []api.Expr{x}, e == api.ErrDepth, e != api.ErrSyntax
}

func (c *cuts) ways() []way {
	found := c.verbs(0, way{})
	if !c.is(0, api.TokName, "where") {
		return found
	}
	for cut := range len(c.tokens) {
		if where, deep, ok := c.expr(1, cut); ok {
			found = append(found, c.verbs(cut, way{q: api.Query{Where: where}, deep: deep})...)
		}
	}
	return found
}

// verbs: what the tokens from one on may be.
func (c *cuts) verbs(from int, w way) []way {
	var found []way
	for kind := 1; kind < len(bookVerbs); kind++ {
		token := api.TokName
		if kind == api.QMin || kind == api.QMax {
			token = api.TokWord
		}
		if !c.is(from, token, bookVerbs[kind]) {
			continue
		}
		w := w
		w.q.Kind = kind
		switch of, deep, ok := c.expr(from+1, len(c.tokens)); {
		case kind == api.QRows:
			found = append(found, c.rows(from+1, w)...)
		case kind == api.QCount && from+1 == len(c.tokens):
			found = append(found, w)
		case kind > api.QCount && ok:
			w.q.Of, w.deep = of, w.deep || deep
			found = append(found, w)
		}
	}
	return found
}

func (c *cuts) rows(from int, w way) []way {
	end := len(c.tokens)
	w.q.Limit = -1
	found := c.order(from, end, w)
	if last := end - 1; last > from && c.is(last-1, api.TokName, "limit") && c.tokens[last].Kind == api.TokInt && c.tokens[last].N >= 0 {
		w.q.Limit = int(c.tokens[last].N)
		found = append(found, c.order(from, last-1, w)...)
	}
	return found
}

func (c *cuts) order(from, end int, w way) []way {
	if from == end {
		return []way{w}
	}
	var found []way
	if !c.is(from, api.TokName, "by") {
		return nil
	}
	if by, deep, ok := c.expr(from+1, end); ok {
		found = append(found, way{withOrder(w.q, by, false), w.deep || deep})
	}
	if by, deep, ok := c.expr(from+1, end-1); ok && c.is(end-1, api.TokName, "down") {
		found = append(found, way{withOrder(w.q, by, true), w.deep || deep})
	}
	return found
}

func withOrder(q api.Query, by []api.Expr, down bool) api.Query {
	q.By, q.Down = by, down
	return q
}

// Print and Check.

func bookWellMade(q api.Query) bool {
	wants := map[int]int{api.QRows: 0, api.QCount: 0, api.QSum: 1, api.QMin: 1, api.QMax: 1, api.QAny: 1, api.QAll: 1}
	of, known := wants[q.Kind]
	switch {
	case !known, len(q.Where) > 1, len(q.By) > 1, len(q.Of) != of:
		return false
	case q.Kind != api.QRows && (len(q.By) > 0 || q.Limit != 0):
		return false
	}
	return !q.Down || len(q.By) == 1
}

func bookPrint(q api.Query) (string, api.Errno) {
	if !bookWellMade(q) {
		return "", api.ErrQuery
	}
	for _, x := range slices.Concat(q.Where, q.Of, q.By) {
		if e := syntax.CheckExpr(x); e != api.OK {
			return "", e
		}
	}
	text := bookVerbs[q.Kind]
	if len(q.Where) > 0 {
		text = "where " + drill.ShownExpr(q.Where[0]) + " " + text
	}
	if len(q.Of) > 0 {
		text += " " + drill.ShownExpr(q.Of[0])
	}
	if len(q.By) > 0 {
		text += " by " + drill.ShownExpr(q.By[0])
	}
	if q.Down {
		text += " down"
	}
	if q.Kind == api.QRows && q.Limit >= 0 {
		text += " limit " + strconv.Itoa(q.Limit)
	}
	return text, api.OK
}

func bookCheck(s api.Schema, q api.Query) api.Errno {
	if value.CheckSchema(s) != api.OK {
		return api.ErrSchema
	}
	if !bookWellMade(q) {
		return api.ErrQuery
	}
	wanted := map[int]string{api.QSum: "int", api.QMin: "int bytes", api.QMax: "int bytes", api.QAny: "bool", api.QAll: "bool"}[q.Kind]
	for _, x := range q.Where {
		if e := bookFits(s, x, "bool"); e != api.OK {
			return e
		}
	}
	for _, x := range q.Of {
		if e := bookFits(s, x, wanted); e != api.OK {
			return e
		}
	}
	for _, x := range q.By {
		if e := bookFits(s, x, "int bool bytes"); e != api.OK {
			return e
		}
	}
	return api.OK
}

func bookFits(s api.Schema, x api.Expr, wanted string) api.Errno {
	of, optional, e := typing.Type(s, x)
	switch {
	case e != api.OK:
		return e
	case !slices.Contains(strings.Fields(wanted), []string{"none", "int", "bool", "bytes"}[of]):
		return api.ErrType
	case optional:
		return api.ErrOptional
	}
	return api.OK
}

// Over.

// bookValue: of an expression for an entry.
func bookValue(s api.Schema, x api.Expr, entry api.Entry) api.Value {
	v, e := meaning.Value(s, x, api.Row{Here: true, Vals: entry.Vals})
	if e != api.OK {
		panic("the book asks for what has no value: " + drill.ShownExpr(x))
	}
	return v
}

// bookLess: ints by size, false below true, bytes bytewise.
func bookLess(a, b api.Value) bool {
	if a.Kind != api.Bytes {
		return a.N < b.N
	}
	return bytewise(a.S, b.S)
}

// bytewise: is a text less than another one?
func bytewise(a, b string) bool {
	for i := range len(b) {
		if i == len(a) || a[i] < b[i] {
			return true
		}
		if a[i] > b[i] {
			return false
		}
	}
	return false
}

func bookOver(s api.Schema, l []api.Entry, q api.Query) (api.Answer, api.Errno) {
	if e := bookCheck(s, q); e != api.OK {
		return api.Answer{}, e
	}
	for _, entry := range l {
		if value.Check(s, entry.Vals) != api.OK {
			return api.Answer{}, api.ErrValue
		}
	}
	var list []api.Entry
	for _, entry := range l {
		if len(q.Where) == 0 || bookValue(s, q.Where[0], entry).N == 1 {
			list = append(list, entry)
		}
	}
	if q.Kind == api.QRows {
		return api.Answer{Rows: bookRows(s, list, q)}, api.OK
	}
	var values []api.Value
	for _, entry := range list {
		for _, x := range q.Of {
			values = append(values, bookValue(s, x, entry))
		}
	}
	return api.Answer{Value: bookFold(q.Kind, len(list), values)}, api.OK
}

// bookRows: of those that are left the first one is taken ahead of which no other stands.
func bookRows(s api.Schema, left []api.Entry, q api.Query) []api.Entry {
	rows := left
	if len(q.By) > 0 {
		rows = nil
		for left := slices.Clone(left); len(left) > 0; {
			first := 0
			for i := range left {
				if bookAhead(s, left[i], left[first], q) {
					first = i
				}
			}
			rows = append(rows, left[first])
			left = slices.Delete(left, first, first+1)
		}
	}
	if q.Limit >= 0 && len(rows) > q.Limit {
		rows = rows[:q.Limit]
	}
	return rows
}

// bookAhead: does an entry stand ahead of another one wherever they stood?
func bookAhead(s api.Schema, a, b api.Entry, q api.Query) bool {
	x, y := bookValue(s, q.By[0], a), bookValue(s, q.By[0], b)
	switch {
	case bookLess(x, y):
		return !q.Down
	case bookLess(y, x):
		return q.Down
	}
	return bytewise(a.Key, b.Key)
}

func bookFold(kind, count int, values []api.Value) api.Value {
	switch kind {
	case api.QCount:
		return intOf(int64(count))
	case api.QSum:
		sum := new(big.Int)
		for _, v := range values {
			sum.Add(sum, big.NewInt(v.N))
		}
		// The lowest 64 bits are the number modulo 2^64.
		low := new(big.Int).And(sum, new(big.Int).SetUint64(1<<64-1))
		return intOf(int64(low.Uint64()))
	case api.QAny:
		return boolOf(slices.ContainsFunc(values, func(v api.Value) bool { return v.N == 1 }))
	case api.QAll:
		return boolOf(!slices.ContainsFunc(values, func(v api.Value) bool { return v.N == 0 }))
	}
	var end api.Value
	for _, v := range values {
		if end.Kind == api.None || kind == api.QMin && bookLess(v, end) || kind == api.QMax && bookLess(end, v) {
			end = v
		}
	}
	return end
}

func intOf(n int64) api.Value    { return api.Value{Kind: api.Int, N: n} }
func bytesOf(s string) api.Value { return api.Value{Kind: api.Bytes, S: s} }

func boolOf(is bool) api.Value {
	n := map[bool]int64{true: 1}[is]
	return api.Value{Kind: api.Bool, N: n}
}

// What the tests ask.

func sameQuery(a, b api.Query) bool {
	return a.Kind == b.Kind && a.Down == b.Down && a.Limit == b.Limit && slices.EqualFunc(a.Where, b.Where, drill.SameExpr) && slices.EqualFunc(a.Of, b.Of, drill.SameExpr) && slices.EqualFunc(a.By, b.By, drill.SameExpr)
}

func sameAnswer(a, b api.Answer) bool {
	return a.Value == b.Value && drill.SameEntries(a.Rows, b.Rows)
}

// queryOf: the query of a text: a wrong one is a fault of the test.
func queryOf(text string) api.Query {
	q, e, _ := bookParse(text)
	if e != api.OK {
		panic("no query: " + text)
	}
	return q
}

// shown: a query in short, whatever it is.
func shown(q api.Query) string {
	if text, e := bookPrint(q); e == api.OK {
		return text
	}
	text := "kind " + strconv.Itoa(q.Kind) + ", down " + strconv.FormatBool(q.Down) + ", limit " + strconv.Itoa(q.Limit)
	for i, part := range [][]api.Expr{q.Where, q.Of, q.By} {
		text += ", " + strings.Fields("where of by")[i] + " " + strconv.Itoa(len(part)) + ":"
		for _, x := range part[:min(len(part), 3)] {
			text += " " + drill.ShownExpr(x)
		}
	}
	return text
}

// wantParse: Parse answers what the book does; and what it gives is printed, and parsed back.
func wantParse(t *testing.T, text string) {
	t.Helper()
	want, e, place := bookParse(text)
	wantQuery(t, text, want, e, place)
	if e == api.OK {
		wantPrint(t, want)
	}
}

func wantQuery(t *testing.T, text string, want api.Query, e api.Errno, place int) {
	t.Helper()
	if got, errno, where := query.Parse(text); !sameQuery(got, want) || errno != e || where != place {
		t.Fatalf("Parse(%.300q) = %s, %d, %d, want %s, %d, %d", text, shown(got), errno, where, shown(want), e, place)
	}
}

// wantPrint: Print answers what the book does; and Parse of the text, if it is short enough, is the query.
func wantPrint(t *testing.T, q api.Query) {
	t.Helper()
	want, e := bookPrint(q)
	got, errno := query.Print(q)
	if errno != e || got != want {
		t.Fatalf("Print(%s) = %.300q, %d, want %.300q, %d", shown(q), got, errno, want, e)
	}
	if e == api.OK && len(got) <= api.MaxSource {
		q.Limit = max(q.Limit, -1)
		wantQuery(t, got, q, api.OK, 0)
	}
}

func wantCheck(t *testing.T, s api.Schema, q api.Query) {
	t.Helper()
	if got, want := query.Check(s, q), bookCheck(s, q); got != want {
		t.Fatalf("Check(%s) = %d, want %d", shown(q), got, want)
	}
}

// wantOver: Over answers what the book does.
func wantOver(t *testing.T, s api.Schema, l []api.Entry, q api.Query) {
	t.Helper()
	want, e := bookOver(s, l, q)
	wantAnswer(t, s, l, q, want, e)
}

func wantAnswer(t *testing.T, s api.Schema, l []api.Entry, q api.Query, want api.Answer, e api.Errno) {
	t.Helper()
	if got, errno := query.Over(s, l, q); errno != e || !sameAnswer(got, want) {
		t.Fatalf("Over(%.500s: %s) = %s, %d, want %s, %d", drill.ShownEntries(s, l), shown(q), shownAnswer(s, got), errno, shownAnswer(s, want), e)
	}
}

func shownAnswer(s api.Schema, a api.Answer) string {
	return drill.ShownEntries(s, a.Rows) + strconv.Itoa(a.Value.Kind) + " " + strconv.FormatInt(a.Value.N, 10) + " " + value.Quote(a.Value.S)
}

// entriesOf: each text a key and its record, with a blank between.
func entriesOf(s api.Schema, texts ...string) []api.Entry {
	var list []api.Entry
	for _, text := range texts {
		key, record, _ := strings.Cut(text, " ")
		list = append(list, api.Entry{Key: key, Vals: drill.RowOf(s, record).Vals})
	}
	return list
}
