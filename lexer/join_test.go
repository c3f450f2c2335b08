package lexer_test

import (
	"slices"
	"strings"
	"testing"

	"arbor/api"
	"arbor/drill"
	"arbor/lexer"
)

// samples: tokens of all kinds, at the edges too.
func samples() []api.Token {
	list := []api.Token{
		name("a"), name("_"), name("A_9z"), name("abcdefgh"), name("If"), name("x0f"),
		number(0), number(7), number(1<<63 - 1), number(-1 << 63),
		literal(""), literal("a"), literal(`"`), literal(`\`), literal("# é\n\x00\xff"), literal(strings.Repeat("x", 20)), literal("if"),
	}
	for keyword := range strings.FieldsSeq(bookKeywords) {
		list = append(list, word(keyword))
	}
	for m := range strings.FieldsSeq(bookMarks) {
		list = append(list, mark(m))
	}
	return list
}

// P7.5, P7.6: every token by itself, and every two and three of them.
func TestEveryFewTokens(t *testing.T) {
	for length := range 4 {
		drill.Scripts(samples(), length, func(list []api.Token) { wantJoin(t, list) })
	}
	for _, token := range samples() {
		if _, e := lexer.Join(token); e != api.OK {
			t.Errorf("Join(%v) = %d", token, e)
		}
	}
}

// P7.5: every kind with every text and number, by itself and behind right ones.
func TestWrongTokens(t *testing.T) {
	texts := []string{"", " ", "n", "n ", " n", "n\n", "9", "9a", "0x1", "a b", "abcdefgh", "abcdefghi", "é", "a\xff", "\x00", "if", "If", "iff", "min=", "=", "==", "===", "= ", "!", "!=", "?", "??", "???", "=<", "+=", "-=", "-", "(", "()", "#", `"`, `"a"`,
		strings.Repeat("x", 20), strings.Repeat("x", 21), strings.Repeat("é", 10), strings.Repeat("é", 11), strings.Repeat("\xff", 20), strings.Repeat("n", 1<<20), strings.Repeat("=", 1<<20)}
	for m := range strings.FieldsSeq(bookMarks + " " + bookKeywords) {
		texts = append(texts, m)
	}
	kinds := []int{0, api.TokName, api.TokInt, api.TokString, api.TokWord, api.TokMark, 6, 7, -1, -2, 255, 256, 1 << 62, -1 << 63, 1<<63 - 1}
	for _, kind := range kinds {
		for _, text := range texts {
			for _, n := range []int64{0, 1, -1, 5, 1<<63 - 1, -1 << 63, -1<<63 + 1} {
				token := api.Token{Kind: kind, Text: text, N: n}
				wantJoin(t, []api.Token{token})
				wantJoin(t, []api.Token{name("n"), mark("="), token})
				wantJoin(t, []api.Token{token, number(1)})
			}
		}
	}
}

// P7.5: the place is not looked at.
func TestPlacesDoNotMatter(t *testing.T) {
	for _, place := range []int{0, 1, -1, 255, 256, 257, 1<<63 - 1, -1 << 63} {
		for _, token := range samples() {
			wantJoin(t, []api.Token{at(place, token), at(place, token)})
		}
		if src, e := lexer.Join(at(place, name("n")), at(place, mark("+=")), at(place, number(5))); src != "n += 5" || e != api.OK {
			t.Errorf("Join with places %d = %q, %d", place, src, e)
		}
	}
}

func wantJoinError(t *testing.T, what string, list []api.Token, e api.Errno) {
	t.Helper()
	if src, errno := lexer.Join(list...); src != "" || errno != e {
		t.Errorf("Join of %s = %.40q, %d, want %d", what, src, errno, e)
	}
}

// P7.5: too many tokens come ahead of wrong ones, these ahead of too long a text.
func TestTheOrderOfJoinsErrors(t *testing.T) {
	wrong := mark("!")
	for _, many := range []int{257, 258, 1000, 1 << 20} {
		wantJoinError(t, "very many wrong tokens", slices.Repeat([]api.Token{wrong}, many), api.ErrSource)
		wantJoinError(t, "very many right tokens", slices.Repeat([]api.Token{mark("=")}, many), api.ErrSource)
		wantJoinError(t, "very many zero tokens", make([]api.Token, many), api.ErrSource)
	}
	for _, many := range []int{1, 128, 129, 255, 256} {
		wantJoinError(t, "many wrong tokens", slices.Repeat([]api.Token{wrong}, many), api.ErrToken)
		list := slices.Repeat([]api.Token{mark("=")}, many)
		for _, place := range []int{0, many / 2, many - 1} {
			one := slices.Clone(list)
			one[place] = wrong
			wantJoinError(t, "many tokens with a wrong one", one, api.ErrToken)
		}
	}
	long := slices.Repeat([]api.Token{literal(strings.Repeat("\xff", 20))}, 256)
	wantJoinError(t, "long tokens", long, api.ErrSource)
	long[255].N = 1
	wantJoinError(t, "long tokens with a wrong one", long, api.ErrToken)
}

// P7.5: texts up to MaxSource bytes.
func TestLengthOfJoinedTexts(t *testing.T) {
	for _, token := range samples() {
		for many := range 130 {
			for _, last := range []api.Token{token, mark("="), mark("=="), word("len"), name("abcd")} {
				wantJoin(t, append(slices.Repeat([]api.Token{token}, many), last))
			}
		}
	}
	list := slices.Repeat([]api.Token{mark("=")}, 128)
	if src, e := lexer.Join(list...); src != strings.Repeat("= ", 127)+"=" || e != api.OK {
		t.Errorf("Join of 255 bytes = %q, %d", src, e)
	}
	list[127] = mark("==")
	if src, e := lexer.Join(list...); src != strings.Repeat("= ", 127)+"==" || e != api.OK {
		t.Errorf("Join of 256 bytes = %q, %d", src, e)
	}
	list[0] = mark("==")
	wantJoinError(t, "257 bytes", list, api.ErrSource)
}

// P7.6: of long lists without a plain pattern; the source with odd blanks and comments has the same tokens.
func TestLongListsThereAndBack(t *testing.T) {
	tokens := samples()
	between := []string{" ", "\n", "\t\r", " # é \"\n", "#\n"}
	numbers := drill.Numbers(7)
	for range 5000 {
		var list []api.Token
		src := ""
		for range numbers.Below(40) {
			token := tokens[numbers.Below(len(tokens))]
			list = append(list, token)
			src += bookText(token) + between[numbers.Below(len(between))]
		}
		wantJoin(t, list)
		wantLex(t, src)
		got, e, _ := lexer.Lex(src)
		if len(src) <= 256 && (e != api.OK || !slices.EqualFunc(got, list, alike)) {
			t.Fatalf("Lex(%q) = %v, %d, want %v", src, got, e, list)
		}
	}
}

// What is handed in is neither changed nor kept, spare room too; nil and empty are the same.
func TestJoinLeavesItsTokens(t *testing.T) {
	list := append(make([]api.Token, 0, 4), name("n"), mark("+="), at(9, number(5)))
	before := slices.Clone(list[:4])
	src, e := lexer.Join(list...)
	if !slices.Equal(list[:4], before) {
		t.Errorf("Join made %v of %v", list[:4], before)
	}
	list[0] = name("m")
	if src != "n += 5" || e != api.OK {
		t.Errorf("Join = %q, %d", src, e)
	}
	for _, none := range [][]api.Token{nil, {}} {
		if src, e := lexer.Join(none...); src != "" || e != api.OK {
			t.Errorf("Join of nothing = %q, %d", src, e)
		}
	}
}
