package lexer

import (
	"math"
	"strconv"
	"strings"

	"arbor/api"
	"arbor/value"
	"arbor/words"
)

// Join: a source whose tokens these are (their places aside).
func Join(ts ...api.Token) (string, api.Errno) {
	if len(ts) > api.MaxSource {
		return "", api.ErrSource
	}
	var src strings.Builder
	for i, t := range ts {
		text, ok := textOf(t)
		if !ok {
			return "", api.ErrToken
		}
		if i > 0 {
			src.WriteByte(' ')
		}
		src.WriteString(text)
	}
	// Not ahead of the last token: that one of them is none comes first.
	if src.Len() > api.MaxSource {
		return "", api.ErrSource
	}
	return src.String(), api.OK
}

// textOf: a token's own text, if it could come out of Lex.
func textOf(t api.Token) (text string, ok bool) {
	if t.Kind == api.TokInt {
		return strconv.FormatUint(uint64(t.N), 10), t.Text == "" && (t.N >= 0 || t.N == math.MinInt64)
	}
	if t.N != 0 {
		return "", false
	}
	switch t.Kind {
	case api.TokName:
		return t.Text, words.Name(t.Text)
	case api.TokString:
		if len(t.Text) > api.MaxBytes {
			return "", false
		}
		return value.Quote(t.Text), true
	case api.TokWord:
		return t.Text, words.Keyword(t.Text)
	case api.TokMark:
		return t.Text, isMark(t.Text)
	}
	return "", false
}
