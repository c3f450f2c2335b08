package query_test

import (
	"slices"
	"strings"
	"testing"

	"arbor/api"
	"arbor/drill"
	"arbor/lexer"
	"arbor/query"
)

const (
	queryWords = "where rows by down limit count sum any all"
	allTexts   = queryWords + ` n 7 9223372036854775808 "s" and cat clear delete else false has here if len max min new not or pick true == != <= >= += ?? = < > + - * ( ) { } , ;`
)

// grow: every row of so many of these tokens that is a query, the beginning of one, or wrong at its last one: then whatever comes behind.
func grow(t *testing.T, texts string, longest int) {
	tried := ofQueries.Grow(texts, longest, func(text string) { wantParse(t, text) }, func(text string, place int) {
		wantQuery(t, text, api.Query{}, api.ErrQuery, place)
		wantQuery(t, text+" rows ;)", api.Query{}, api.ErrQuery, place)
	})
	t.Logf("%d texts", tried)
}

// P20.1: every short row of tokens is a query, the beginning of one, or wrong at a token.
func TestEveryShortQuery(t *testing.T) {
	grow(t, allTexts, 4)
}

// P20.1: the words in every order: each of them may be a field's name too.
func TestEveryRowOfWords(t *testing.T) {
	grow(t, queryWords+" min 7", 6)
	grow(t, "where rows by down limit 7", 10)
	grow(t, "where has min max count all", 7)
}

// P20.1: where an expression ends.
func TestEveryEndOfAnExpression(t *testing.T) {
	grow(t, "where rows n - ( ) 7", 7)
	grow(t, "where min max ( ) , n", 8)
	grow(t, "rows by not n == ?? down limit 9223372036854775808", 7)
	grow(t, `sum - 9223372036854775808 7 "down" by`, 6)
}

// P20.1: a text is wrong at the same token, and means the same, whatever blanks and comments stand between.
func TestBlanksAndCommentsMeanNothing(t *testing.T) {
	for _, tokens := range []string{"where n > 0 rows by n down limit 2", "where has m count", "min min ( n , - 5 )", "rows by n down down", "where n +", "where", "rows limit - 1", "all on and", "sum n n", "where n 5 rows"} {
		parts := strings.Fields(tokens)
		plain, e, _ := query.Parse(tokens)
		for _, gap := range []string{" ", "  ", "\n", "\t\r", " # x rows )\n", "#\n#é\n"} {
			for _, end := range []string{"", " ", "\n", "# rows"} {
				text := gap + strings.Join(parts, gap) + end
				wantParse(t, text)
				if got, errno, _ := query.Parse(text); !sameQuery(got, plain) || errno != e {
					t.Errorf("Parse(%q) = %s, %d, want %s, %d", text, shown(got), errno, shown(plain), e)
				}
			}
		}
	}
	wantQuery(t, "where(n)==-5count", api.Query{}, api.ErrNumber, 11)
	wantQuery(t, `where"a"<tag count`, queryOf(`where "a" < tag count`), api.OK, 0)
	wantQuery(t, "where  # rows", api.Query{}, api.ErrQuery, 13)
	wantQuery(t, "where n # rows\n", api.Query{}, api.ErrQuery, 15)
	wantQuery(t, " \n", api.Query{}, api.ErrQuery, 2)
	wantQuery(t, "", api.Query{}, api.ErrQuery, 0)
}

// P20.1: what the lexer refuses has the lexer's error and place, whatever the tokens ahead of it are.
func TestLexersErrorsComeFirst(t *testing.T) {
	for _, x := range []struct {
		text string
		e    api.Errno
		at   int
	}{
		{"rows rows !", api.ErrToken, 10},
		{"where n rows \xff", api.ErrUTF8, 13},
		{") # \xff", api.ErrUTF8, 4},
		{"limit 007", api.ErrNumber, 6},
		{"rows limit 9223372036854775809", api.ErrNumber, 11},
		{") \"a", api.ErrString, 2},
		{"any \"" + strings.Repeat("x", 21) + "\"", api.ErrString, 4},
		{"sum abcdefghi", api.ErrToken, 4},
		{"any " + strings.Repeat("not ", 13) + "here ?", api.ErrToken, 61},
		{strings.Repeat(" ", 253) + "rows", api.ErrSource, 0},
		{strings.Repeat("\xff", 257), api.ErrSource, 0},
		{strings.Repeat("rows ", 1<<18), api.ErrSource, 0},
	} {
		wantQuery(t, x.text, api.Query{}, x.e, x.at)
	}
	wantQuery(t, strings.Repeat(" ", 252)+"rows", queryOf("rows"), api.OK, 0)
	wantQuery(t, strings.Repeat(" ", 256), api.Query{}, api.ErrQuery, 256)
}

// P20.1: texts of literals are no words, and words know capitals from small letters.
func TestLiteralsAndOtherNamesAreNoWords(t *testing.T) {
	for word := range strings.FieldsSeq(queryWords + " min max") {
		for _, other := range []string{`"` + word + `"`, strings.ToUpper(word), strings.ToUpper(word[:1]) + word[1:], word + "_", "_" + word, word[1:], word[:len(word)-1]} {
			for _, text := range []string{"#", "# n", "where n #", "where # #", "rows #", "rows # n", "rows by n #", "rows by # #", "rows by n # #", "rows # 5", "rows by n # 5", "rows by n down # 5", "# rows", "# n rows", "# # count"} {
				wantParse(t, strings.ReplaceAll(text, "#", other))
				wantParse(t, strings.ReplaceAll(text, "#", word))
			}
		}
	}
}

// P20.1: a limit is a number of any form, 0 or more.
func TestLimits(t *testing.T) {
	for text, want := range map[string]int{
		"0": 0, "1": 1, "0x0": 0, "0x10": 16, "1_000": 1000, "9223372036854775807": 1<<63 - 1, "0x7fff_ffff_ffff_ffff": 1<<63 - 1,
	} {
		wantQuery(t, "rows limit "+text, api.Query{Kind: api.QRows, Limit: want}, api.OK, 0)
		wantParse(t, "where on rows by limit limit "+text)
	}
	for _, text := range []string{"9223372036854775808", "0x8000000000000000", "- 0", "-1", "(1)", "n", `"1"`, "true", "limit 1", "min(1, 2)"} {
		wantQuery(t, "rows limit "+text, api.Query{}, api.ErrQuery, 11)
	}
	wantQuery(t, "rows limit 1 2", api.Query{}, api.ErrQuery, 13)
	wantQuery(t, "rows limit 1 limit 2", api.Query{}, api.ErrQuery, 13)
	wantQuery(t, "rows limit 1 + 2", api.Query{}, api.ErrQuery, 13)
}

// P20.1: depth is told of each expression by itself, and only if nothing else is wrong; parentheses do not count.
func TestDepth(t *testing.T) {
	nots := func(count int) string { return strings.Repeat("not ", count) + "on" }
	for deep := 9; deep < 14; deep++ {
		for _, text := range []string{"where # rows", "where # count", "any #", "all #", "rows by #", "rows by # down", "rows by # limit 5", "where # sum n", "where on all #", "where here rows by # down limit 0", "min #", "where (((#))) rows", "where not (#) and on rows", "sum len(#)"} {
			wantParse(t, strings.ReplaceAll(text, "#", nots(deep)))
		}
		for other := 9; other < 14; other++ {
			wantParse(t, "where "+nots(deep)+" any "+nots(other))
			wantParse(t, "where "+nots(deep)+" rows by "+nots(other))
		}
	}
	deep := nots(12)
	wantQuery(t, "where "+deep+" rows", api.Query{}, api.ErrDepth, 0)
	wantQuery(t, "where "+nots(11)+" any "+nots(11), api.Query{Kind: api.QAny, Where: []api.Expr{drill.ExprOf(nots(11))}, Of: []api.Expr{drill.ExprOf(nots(11))}}, api.OK, 0)
	for text, place := range map[string]int{
		"where # rows rows": 62, "where #": 56, "where # any": 60, "where # any )": 61, "any # any": 55, "any # )": 55, "rows by # by": 59, "rows by # limit": 64, "rows by # down limit on": 70, "where # rows limit -1": 68,
	} {
		wantQuery(t, strings.ReplaceAll(text, "#", deep), api.Query{}, api.ErrQuery, place)
		wantParse(t, strings.ReplaceAll(text, "#", deep))
	}
}

// P20.1: the longest and most nested texts there are.
func TestLongTexts(t *testing.T) {
	for _, part := range []string{"(", ")", "-", "not ", "n ", "where ", "rows ", "by ", "down ", "a+", "a??", "1*", "min(", "min ", "pick(", "a or ", ";", ",", "has ", "\"", "9", "n", "limit 5 "} {
		for _, ahead := range []string{"", "where ", "where n rows by ", "sum ", "rows limit 5 ", "where -"} {
			text := ahead + strings.Repeat(part, 300/len(part))
			for _, size := range []int{255, 256, 257} {
				wantParse(t, text[:size])
			}
		}
	}
	for _, text := range []string{"any #on$", "where #on$ count", "rows by #on$ down limit 7"} {
		for count := 100; count < 130; count++ {
			wantParse(t, strings.NewReplacer("#", strings.Repeat("(", count), "$", strings.Repeat(")", count)).Replace(text))
		}
	}
}

// anyQuery: of any kind, well made, with expressions that may fit or not.
func anyQuery(f drill.Fitting, deep int) api.Query {
	expr := func() []api.Expr {
		list := []api.Expr{f.Expr(1+f.Numbers.Below(3), deep)}
		if f.Numbers.Below(4) == 0 {
			f.Spoil(drill.Pick(f.Numbers, drill.ExprParts(list)))
		}
		return list
	}
	q := api.Query{Kind: 1 + f.Numbers.Below(7)}
	if f.Numbers.Below(2) == 0 {
		q.Where = expr()
	}
	if q.Kind > api.QCount {
		q.Of = expr()
	}
	if q.Kind == api.QRows && f.Numbers.Below(3) > 0 {
		q.By, q.Down = expr(), f.Numbers.Below(2) == 0
	}
	if q.Kind == api.QRows {
		q.Limit = drill.Pick(f.Numbers, []int{-1, 0, 1, 2, 5, 1<<63 - 1})
	}
	return q
}

// P20.1: queries of all kinds, whole and with one token away, one more, or another one.
func TestQueriesOneTokenAway(t *testing.T) {
	texts := strings.Fields(allTexts)
	numbers := drill.Numbers(201)
	for _, s := range drill.Schemas() {
		fitting := drill.Fitting{Schema: s, Numbers: &numbers}
		for range 60 {
			text, _ := bookPrint(anyQuery(fitting, 3))
			tokens, e, _ := lexer.Lex(text)
			if e != api.OK {
				continue
			}
			wantParse(t, text)
			var parts []string
			for _, token := range tokens {
				part, _ := lexer.Join(token)
				parts = append(parts, part)
			}
			for i := range parts {
				other := drill.Pick(&numbers, texts)
				wantParse(t, strings.Join(parts[:i], " "))
				wantParse(t, strings.Join(slices.Delete(slices.Clone(parts), i, i+1), " "))
				wantParse(t, strings.Join(slices.Insert(slices.Clone(parts), i, other), "\n"))
				wantParse(t, strings.Join(slices.Replace(slices.Clone(parts), i, i+1, other), "  "))
			}
		}
	}
}

// P20.1: any bytes at all.
func TestAnyTexts(t *testing.T) {
	numbers := drill.Numbers(202)
	pieces := append(strings.Fields(allTexts), " ", "#", "\n", "!", "?", "é", "\xff", "\x00", "0x", "where n ", "rows by ")
	for range 5000 {
		var text strings.Builder
		for range numbers.Below(12) {
			text.WriteString(drill.Pick(&numbers, pieces))
			if numbers.Below(3) > 0 {
				text.WriteByte(' ')
			}
		}
		wantParse(t, text.String())
	}
}
