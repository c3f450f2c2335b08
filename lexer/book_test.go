package lexer_test

import (
	"math/big"
	"regexp"
	"slices"
	"strings"
	"testing"
	"unicode/utf8"

	"arbor/api"
	"arbor/lexer"
	"arbor/value"
)

// The book: what the chapter says, told in its own order and without haste.

const bookKeywords = "and cat clear delete else false has here if len max min new not or pick true"

const bookMarks = "== != <= >= += ?? = < > + - * ( ) { } , ;"

var (
	bookBetween = regexp.MustCompile(`\A(?:[ \t\n\r]|#[^\n]*(?:\n|\z))*`)
	bookRun     = regexp.MustCompile(`\A[a-zA-Z0-9_]+`)
	bookName    = regexp.MustCompile(`\A[a-zA-Z_][a-zA-Z0-9_]{0,7}\z`)
	bookNumber  = regexp.MustCompile(`\A(?:0|[1-9](?:_?[0-9])*|0x[0-9a-fA-F](?:_?[0-9a-fA-F])*)\z`)
)

var bookGreat = new(big.Int).Lsh(big.NewInt(1), 63)

func name(text string) api.Token    { return api.Token{Kind: api.TokName, Text: text} }
func number(n int64) api.Token      { return api.Token{Kind: api.TokInt, N: n} }
func literal(text string) api.Token { return api.Token{Kind: api.TokString, Text: text} }
func word(text string) api.Token    { return api.Token{Kind: api.TokWord, Text: text} }
func mark(text string) api.Token    { return api.Token{Kind: api.TokMark, Text: text} }

func at(place int, t api.Token) api.Token {
	t.At = place
	return t
}

func bookIsKeyword(text string) bool { return slices.Contains(strings.Fields(bookKeywords), text) }

func bookIsMark(text string) bool { return slices.Contains(strings.Fields(bookMarks), text) }

func bookLex(src string) ([]api.Token, api.Errno, int) {
	if len(src) > 256 {
		return nil, api.ErrSource, 0
	}
	for place := 0; place < len(src); {
		r, size := utf8.DecodeRuneInString(src[place:])
		if r == utf8.RuneError && size == 1 {
			return nil, api.ErrUTF8, place
		}
		place += size
	}
	var list []api.Token
	for place := 0; ; {
		place += len(bookBetween.FindString(src[place:]))
		if place == len(src) {
			return list, api.OK, 0
		}
		token, taken, e := bookFirst(src[place:])
		if e != api.OK {
			return nil, e, place
		}
		list = append(list, at(place, token))
		place += taken
	}
}

func bookFirst(text string) (api.Token, int, api.Errno) {
	if run := bookRun.FindString(text); run != "" {
		token, e := bookOfRun(run)
		return token, len(run), e
	}
	if text[0] == '"' {
		b, taken, e := value.Unquote(text)
		if e != api.OK || len(b) > 20 {
			return api.Token{}, 0, api.ErrString
		}
		return literal(b), taken, api.OK
	}
	for m := range strings.FieldsSeq(bookMarks) {
		if strings.HasPrefix(text, m) {
			return mark(m), len(m), api.OK
		}
	}
	return api.Token{}, 0, api.ErrToken
}

func bookOfRun(run string) (api.Token, api.Errno) {
	switch {
	case bookIsKeyword(run):
		return word(run), api.OK
	case bookName.MatchString(run):
		return name(run), api.OK
	case run[0] < '0' || run[0] > '9':
		return api.Token{}, api.ErrToken
	case !bookNumber.MatchString(run):
		return api.Token{}, api.ErrNumber
	}
	n, _ := new(big.Int).SetString(strings.ReplaceAll(run, "_", ""), 0)
	if n.Cmp(bookGreat) > 0 {
		return api.Token{}, api.ErrNumber
	}
	if n.Cmp(bookGreat) == 0 {
		return number(-1 << 63), api.OK
	}
	return number(n.Int64()), api.OK
}

func bookCouldCome(t api.Token) bool {
	switch t.Kind {
	case api.TokName:
		return bookName.MatchString(t.Text) && !bookIsKeyword(t.Text) && t.N == 0
	case api.TokInt:
		return t.Text == "" && (t.N >= 0 || t.N == -1<<63)
	case api.TokString:
		return len(t.Text) <= 20 && t.N == 0
	case api.TokWord:
		return bookIsKeyword(t.Text) && t.N == 0
	case api.TokMark:
		return bookIsMark(t.Text) && t.N == 0
	}
	return false
}

func bookText(t api.Token) string {
	switch t.Kind {
	case api.TokInt:
		return new(big.Int).Abs(big.NewInt(t.N)).String()
	case api.TokString:
		return value.Quote(t.Text)
	}
	return t.Text
}

func bookJoin(list []api.Token) (string, api.Errno) {
	if len(list) > 256 {
		return "", api.ErrSource
	}
	var texts []string
	for _, t := range list {
		if !bookCouldCome(t) {
			return "", api.ErrToken
		}
		texts = append(texts, bookText(t))
	}
	if src := strings.Join(texts, " "); len(src) <= 256 {
		return src, api.OK
	}
	return "", api.ErrSource
}

// wantLex: Lex answers what the book does; and there and back are the same.
func wantLex(t *testing.T, src string) {
	t.Helper()
	want, e, place := bookLex(src)
	got, errno, where := lexer.Lex(src)
	if !slices.Equal(got, want) || errno != e || where != place {
		t.Fatalf("Lex(%q) = %v, %d, %d, want %v, %d, %d", src, got, errno, where, want, e, place)
	}
	if e == api.OK {
		wantJoin(t, got)
	}
}

// wantJoin: Join answers what the book does; and Lex of its answer are the tokens.
func wantJoin(t *testing.T, list []api.Token) {
	t.Helper()
	want, e := bookJoin(list)
	got, errno := lexer.Join(list...)
	if got != want || errno != e {
		t.Fatalf("Join(%v) = %q, %d, want %q, %d", list, got, errno, want, e)
	}
	if e != api.OK {
		return
	}
	back, errno, place := lexer.Lex(got)
	if errno != api.OK || place != 0 || !slices.EqualFunc(back, list, alike) {
		t.Fatalf("Lex(%q) = %v, %d, %d, want the tokens %v", got, back, errno, place, list)
	}
}

// alike: the same but for their places.
func alike(a, b api.Token) bool { return at(0, a) == at(0, b) }

// wantError: just this error at this place, and no tokens.
func wantError(t *testing.T, src string, e api.Errno, place int) {
	t.Helper()
	if got, errno, where := lexer.Lex(src); len(got) != 0 || errno != e || where != place {
		t.Errorf("Lex(%.60q) = %v, %d, %d, want %d at %d", src, got, errno, where, e, place)
	}
}

// wantTokens: just these tokens, their places too.
func wantTokens(t *testing.T, src string, want ...api.Token) {
	t.Helper()
	if got, e, place := lexer.Lex(src); !slices.Equal(got, want) || e != api.OK || place != 0 {
		t.Errorf("Lex(%.60q) = %v, %d, %d, want %v", src, got, e, place, want)
	}
}
