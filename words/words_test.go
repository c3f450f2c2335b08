package words_test

import (
	"strings"
	"testing"

	"arbor/words"
)

var keywords = strings.Fields("and cat clear delete else false has here if len max min new not or pick true")

func TestKeywordsAreKnown(t *testing.T) {
	for _, word := range keywords {
		if !words.Keyword(word) || words.Name(word) {
			t.Errorf("%q is no keyword, or a name", word)
		}
	}
}

func TestWhatIsNearAKeywordIsNone(t *testing.T) {
	for _, word := range keywords {
		for _, near := range []string{strings.ToUpper(word), strings.ToUpper(word[:1]) + word[1:], word + "s", "_" + word, word + "_"} {
			if words.Keyword(near) || !words.Name(near) {
				t.Errorf("%q is a keyword, or no name", near)
			}
		}
		for _, near := range []string{word[1:], word[:len(word)-1], word + " ", ""} {
			if words.Keyword(near) {
				t.Errorf("%q is a keyword", near)
			}
		}
	}
}

func TestRunIsOfLettersDigitsAndUnderlines(t *testing.T) {
	const inRun = "abcdefghijklmnopqrstuvwxyzABCDEFGHIJKLMNOPQRSTUVWXYZ0123456789_"
	for c := range 256 {
		one, want := string([]byte{byte(c)}), 0
		if strings.Contains(inRun, one) {
			want = 1
		}
		if got := words.Run(one); got != want {
			t.Errorf("Run(%q) = %d", one, got)
		}
		if got := words.Run("a" + one + "+"); got != 1+want {
			t.Errorf("Run of %q between a and + = %d", one, got)
		}
	}
	for text, want := range map[string]int{"": 0, "ab": 2, "9a_:int": 3, "é": 0, "aé": 1, strings.Repeat("x", 1000): 1000} {
		if got := words.Run(text); got != want {
			t.Errorf("Run(%.10q) = %d, want %d", text, got, want)
		}
	}
}

func TestNames(t *testing.T) {
	for _, name := range []string{"a", "_", "Z", "a9", "_9", "___", "abcdefgh", "z0123456"} {
		if !words.Name(name) {
			t.Errorf("%q is no name", name)
		}
	}
	for _, name := range []string{"", "0", "9a", "abcdefghi", "a b", "a-", "-", "é", "a:", "a\x00", "a\xff", strings.Repeat("a", 1000)} {
		if words.Name(name) {
			t.Errorf("%q is a name", name)
		}
	}
}
