package lexer_test

import (
	"testing"

	"arbor/api"
	"arbor/lexer"
)

func TestExamplesOfTokens(t *testing.T) {
	wantTokens(t, "")
	wantTokens(t, "# é")
	wantTokens(t, "n += 1", name("n"), at(2, mark("+=")), at(5, number(1)))
	wantTokens(t, "n min= 0xf_F", name("n"), at(2, word("min")), at(5, mark("=")), at(7, number(255)))
	wantTokens(t, "if has tag{clear tag}# gone", word("if"), at(3, word("has")), at(7, name("tag")), at(10, mark("{")),
		at(11, word("clear")), at(17, name("tag")), at(20, mark("}")))
	wantTokens(t, "a===b", name("a"), at(1, mark("==")), at(3, mark("=")), at(4, name("b")))
	wantTokens(t, "a<=b", name("a"), at(1, mark("<=")), at(3, name("b")))
	wantTokens(t, "9223372036854775808", number(-9223372036854775808))
}

func TestExamplesOfErrors(t *testing.T) {
	wantError(t, "n min= 0x_f", api.ErrNumber, 7)
	wantError(t, "9223372036854775809", api.ErrNumber, 0)
	wantError(t, "0x8000000000000001", api.ErrNumber, 0)
	wantError(t, "abcdefghi = 1", api.ErrToken, 0)
	wantError(t, "a ! b", api.ErrToken, 2)
	wantError(t, "a ? b", api.ErrToken, 2)
	wantError(t, "é", api.ErrToken, 0)
	wantError(t, "! \"\xff\"", api.ErrUTF8, 3)
	wantError(t, `a = "b`, api.ErrString, 4)
	for _, run := range []string{"12ab", "007", "0x", "1__0", "1_"} {
		wantError(t, run, api.ErrNumber, 0)
	}
}

func TestExamplesOfJoin(t *testing.T) {
	if src, e := lexer.Join(name("n"), mark("+="), number(5)); src != "n += 5" || e != api.OK {
		t.Errorf("Join of n, += and 5 = %q, %d", src, e)
	}
	if src, e := lexer.Join(word("if"), name("if")); src != "" || e != api.ErrToken {
		t.Errorf("Join of the name if = %q, %d", src, e)
	}
	if src, e := lexer.Join(); src != "" || e != api.OK {
		t.Errorf("Join of nothing = %q, %d", src, e)
	}
	if src, e := lexer.Join(number(-9223372036854775808)); src != "9223372036854775808" || e != api.OK {
		t.Errorf("Join of 2^63 = %q, %d", src, e)
	}
}

func TestExampleOfKeyword(t *testing.T) {
	if lexer.Keyword("If") || !lexer.Keyword("if") {
		t.Error("If is a keyword, or if is none")
	}
}
