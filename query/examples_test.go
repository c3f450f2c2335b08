package query_test

import (
	"strings"
	"testing"

	"arbor/api"
	"arbor/drill"
	"arbor/query"
	"arbor/value"
)

// exampleSchema: of all the chapter's examples.
const exampleSchema = "n:int,m:int?,on:bool,tag:bytes?"

func exampleEntries() []api.Entry {
	return entriesOf(drill.SchemaOf(exampleSchema), `a {n=3,on=true}`, `b {n=1,m=7,on=true}`, `c {n=3,tag="x"}`, `d {n=-5}`)
}

// told: the keys of an answer's rows, or its value as an expression, or none.
func told(a api.Answer) string {
	var words []string
	for _, row := range a.Rows {
		words = append(words, row.Key)
	}
	switch a.Value.Kind {
	case api.None:
	case api.Bytes:
		words = append(words, value.Quote(a.Value.S))
	default:
		words = append(words, drill.ShownExpr(drill.Literal(a.Value)))
	}
	return strings.Join(words, " ")
}

// The chapter's table of answers.
func TestExamplesOfAnswers(t *testing.T) {
	s := drill.SchemaOf(exampleSchema)
	for _, x := range []struct{ text, want string }{
		{"rows", "a b c d"},
		{"where on rows", "a b"},
		{"rows by n", "d b a c"},
		{"rows by n down", "a c b d"},
		{`where n > 0 rows by tag ?? "" down limit 2`, "c a"},
		{"rows limit 0", ""},
		{"count", "4"},
		{"where has m or n == 3 count", "3"},
		{"sum n * 2", "4"},
		{"where false sum n", "0"},
		{"min n", "-5"},
		{`max tag ?? ""`, `"x"`},
		{"where n > 9 min n", ""},
		{"any n < 0", "true"},
		{"all on or n < 9", "true"},
		{"where n > 9 any true", "false"},
		{"where n > 9 all false", "true"},
		{"min (n)", "-5"},
	} {
		q, e, at := query.Parse(x.text)
		if e != api.OK || at != 0 {
			t.Errorf("Parse(%q) = %d, %d", x.text, e, at)
		}
		if a, e := query.Over(s, exampleEntries(), q); e != api.OK || told(a) != x.want {
			t.Errorf("%s: %s, %d, want %s", x.text, told(a), e, x.want)
		}
		wantOver(t, s, exampleEntries(), q)
	}
}

// The chapter's table of errors.
func TestExamplesOfErrors(t *testing.T) {
	for text, place := range map[string]int{
		"where rows":          10,
		"where n + ) rows":    10,
		"rows by n down down": 15,
		"rows limit -1":       11,
		"sum":                 3,
		"min(n, m)":           5,
		"Rows":                0,
		"rows;":               4,
		"limit 5":             0,
	} {
		wantQuery(t, text, api.Query{}, api.ErrQuery, place)
		wantParse(t, text)
	}
}

// What the grammar says in its remarks.
func TestExamplesOfWords(t *testing.T) {
	field := func(name string) []api.Expr { return []api.Expr{drill.Field(name)} }
	wantQuery(t, "where rows rows", api.Query{Kind: api.QRows, Where: field("rows"), Limit: -1}, api.OK, 0)
	wantQuery(t, "rows by by down", api.Query{Kind: api.QRows, By: field("by"), Down: true, Limit: -1}, api.OK, 0)
}

// What the chapter says below its table.
func TestExamplesOfCheck(t *testing.T) {
	s := drill.SchemaOf(exampleSchema)
	for text, want := range map[string]api.Errno{
		"where n rows": api.ErrType,
		"sum m":        api.ErrOptional,
		"max on":       api.ErrType,
		"rows by m":    api.ErrOptional,
	} {
		if e := query.Check(s, queryOf(text)); e != want {
			t.Errorf("Check(%s) = %d, want %d", text, e, want)
		}
	}
	n := []api.Expr{drill.Field("n")}
	for _, q := range []api.Query{
		{Kind: api.QCount, Of: n}, {Kind: api.QRows, Down: true}, {Kind: api.QCount, Limit: -1}, {Kind: 0}, {Kind: 8}, {Kind: 0, Of: n}, {Kind: 8, Of: n},
	} {
		if e := query.Check(s, q); e != api.ErrQuery {
			t.Errorf("Check(%s) = %d", shown(q), e)
		}
		wantCheck(t, s, q)
		wantPrint(t, q)
	}
}
