package drill_test

import (
	"slices"
	"strings"
	"testing"

	"arbor/api"
	"arbor/drill"
	"arbor/lexer"
)

// Where rows of tokens stop being the beginning of a text, if they aren't a whole one; with one blank between any two.
func TestPlaces(t *testing.T) {
	pairs := drill.GrammarOf(`list = { "(" list ")" } .`, "list")
	middles := drill.GrammarOf(`middle = number | "(" middle ")" | [ "-" ] [ "-" ] great .`, "middle")
	words := drill.GrammarOf(`text = "by" name [ "down" | "min" string ] .`, "text")
	exprs := drill.GrammarOf(drill.ExprGrammar, "expr")
	for _, x := range []struct {
		g     *drill.Grammar
		src   string
		place int
		right bool
	}{
		{pairs, "", 0, true}, {pairs, "( )", 3, true}, {pairs, "( ( ) ( ( ) ) ) ( )", 19, true}, {pairs, "( (", 3, false}, {pairs, ")", 0, false}, {pairs, "( ) )", 4, false}, {pairs, "( n )", 2, false},
		{middles, "", 0, false}, {middles, "( ( 7 ) )", 9, true}, {middles, "( ( 7 ) ) )", 10, false}, {middles, "( ( )", 4, false}, {middles, "9223372036854775808", 19, true}, {middles, "- - 9223372036854775808", 23, true}, {middles, "- - -", 4, false}, {middles, "- 7", 2, false},
		{words, "by by", 5, true}, {words, "by down down", 12, true}, {words, "by n min \"down\"", 15, true}, {words, "by \"n\"", 3, false}, {words, "n by", 0, false}, {words, "by n by", 5, false}, {words, "by min", 3, false}, {words, "by n min", 8, false}, {words, "by 7", 3, false},
		{exprs, "a ?? - 7 < min ( n , 5 )", 24, true}, {exprs, "a == b == c", 7, false}, {exprs, "not", 3, false}, {exprs, "a n", 2, false}, {exprs, "7 9223372036854775808", 2, false},
	} {
		tokens, e, _ := lexer.Lex(x.src)
		if place, right := x.g.Place(tokens, len(x.src)); e != api.OK || place != x.place || right != x.right {
			t.Errorf("of %q: %d, %v, want %d, %v", x.src, place, right, x.place, x.right)
		}
	}
}

// Grow hands on each row once: those that some text begins with, and those that went wrong at their last token.
func TestGrow(t *testing.T) {
	g := drill.GrammarOf(`list = { "(" list ")" } .`, "list")
	var asked, wrong []string
	tried := g.Grow("( ) 7", 3, func(src string) { asked = append(asked, src) }, func(src string, place int) {
		if place != len(src)-1 {
			t.Errorf("%q went wrong at %d", src, place)
		}
		wrong = append(wrong, src)
	})
	if want := []string{"", "(", "( (", "( ( (", "( ( )", "( )", "( ) ("}; !slices.Equal(asked, want) {
		t.Errorf("asked of %q, want %q", asked, want)
	}
	if want := "( ( 7|( ) )|( ) 7|( 7|)|7"; strings.Join(wrong, "|") != want {
		t.Errorf("wrong are %q, want %q", strings.Join(wrong, "|"), want)
	}
	if tried != len(asked)+len(wrong) {
		t.Errorf("%d sources, want %d", tried, len(asked)+len(wrong))
	}
}
