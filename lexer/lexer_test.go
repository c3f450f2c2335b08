package lexer_test

import (
	"strconv"
	"strings"
	"testing"

	"arbor/api"
	"arbor/drill"
	"arbor/lexer"
)

// P7.1: the length is looked at ahead of all else.
func TestLengthOfSources(t *testing.T) {
	for _, piece := range []string{" ", "(", "a", "1", "\xff", "!", `"`, "#", "\n"} {
		wantLex(t, strings.Repeat(piece, 255))
		wantLex(t, strings.Repeat(piece, 256))
		for _, many := range []int{257, 258, 1000, 1 << 22} {
			wantError(t, strings.Repeat(piece, many), api.ErrSource, 0)
		}
	}
	wantTokens(t, strings.Repeat(" ", 255)+"a", at(255, name("a")))
	wantError(t, strings.Repeat("é", 128)+" ", api.ErrSource, 0)
	wantTokens(t, "#"+strings.Repeat("é", 127)+" ")
	if list, e, _ := lexer.Lex(strings.Repeat("(", 256)); len(list) != 256 || e != api.OK {
		t.Errorf("Lex of 256 marks = %d tokens, %d", len(list), e)
	}
}

// P7.1: every two bytes, within a literal, a comment, and where a token would begin.
func TestEveryTwoBytes(t *testing.T) {
	for c := range 1 << 16 {
		two := string([]byte{byte(c >> 8), byte(c)})
		for _, src := range []string{two, `"` + two + `"`, "#" + two, "a" + two + "1"} {
			wantLex(t, src)
		}
	}
}

// P7.1: runes at the edges of UTF-8, whole, cut off, and forms that are none.
func TestRunesAtTheEdges(t *testing.T) {
	for _, r := range []rune{0x80, 0x7ff, 0x800, 0xd7ff, 0xe000, 0xfffc, 0xfffd, 0xfffe, 0xffff, 0x10000, 0x10ffff} {
		whole := string(r)
		wantTokens(t, `"`+whole+`"`, literal(whole))
		wantTokens(t, "a # "+whole, name("a"))
		wantError(t, "a "+whole, api.ErrToken, 2)
		for cut := 1; cut < len(whole); cut++ {
			wantError(t, "# "+whole[:cut], api.ErrUTF8, 2)
			wantError(t, `"é`+whole[:cut]+`"`, api.ErrUTF8, 3)
			wantError(t, "a = "+whole[cut:], api.ErrUTF8, 4)
		}
	}
	for _, b := range []string{"\xed\xa0\x80", "\xed\xbf\xbf", "\xc0\x80", "\xc1\xbf", "\xe0\x80\x80", "\xe0\x9f\xbf", "\xf0\x80\x80\x80", "\xf0\x8f\xbf\xbf", "\xf4\x90\x80\x80", "\xf8\x88\x80\x80\x80", "\xff", "\xfe", "\x80", "\xbf"} {
		for _, ahead := range []string{"", "# ", `"`, "a = 1; ", "\ufffd", "! ", "007 ", "abcdefghi ", `"\q" `, "\n\n"} {
			for _, behind := range []string{"", `"`, "\ufffd", "\xff", " !"} {
				wantError(t, ahead+b+behind, api.ErrUTF8, len(ahead))
			}
		}
	}
}

// P7.2: every short text out of pieces of sources.
func TestEveryShortSource(t *testing.T) {
	pieces := []string{"a", "if", "0", "7", "x", "_", `"`, `\`, "=", "+", "<", "!", "?", ";", " ", "\n", "#", "é", "\xff"}
	for length := range 5 {
		drill.Scripts(pieces, length, func(script []string) { wantLex(t, strings.Join(script, "")) })
	}
}

// P7.2: every short text out of whole tokens and what stands between them.
func TestEveryShortListOfTokens(t *testing.T) {
	pieces := []string{"n", "min", "0x1F", "10_0", `"a#\""`, "==", "=", "-", "??", "(", " ", "\t", "\r", "# x\n", "#\"", "abcdefghi", "12ab", "?", `"`}
	for length := range 5 {
		drill.Scripts(pieces, length, func(script []string) { wantLex(t, strings.Join(script, "")) })
	}
}

// P7.2: every row of bytes of which marks are made.
func TestEveryShortRowOfMarks(t *testing.T) {
	drill.Scripts(strings.Split("=!<>+-*?(){},; &|/%.:[]^~'@$`", ""), 3, func(script []string) { wantLex(t, strings.Join(script, "")) })
	drill.Scripts(strings.Split("=!<>+?", ""), 6, func(script []string) { wantLex(t, strings.Join(script, "")) })
	wantTokens(t, bookMarks, at(0, mark("==")), at(3, mark("!=")), at(6, mark("<=")), at(9, mark(">=")), at(12, mark("+=")), at(15, mark("??")),
		at(18, mark("=")), at(20, mark("<")), at(22, mark(">")), at(24, mark("+")), at(26, mark("-")), at(28, mark("*")),
		at(30, mark("(")), at(32, mark(")")), at(34, mark("{")), at(36, mark("}")), at(38, mark(",")), at(40, mark(";")))
}

// P7.2: every short run that begins with a digit.
func TestEveryShortNumber(t *testing.T) {
	for length := 1; length <= 6; length++ {
		drill.Scripts(strings.Split("019xXaFg_", ""), length, func(script []string) {
			run := strings.Join(script, "")
			wantLex(t, run)
			if length <= 4 {
				wantLex(t, "0x"+run)
			}
		})
	}
}

// P7.2: numbers at the edges of their range, with zeros ahead and parted.
func TestNumbersAtTheEdges(t *testing.T) {
	for _, run := range []string{"9223372036854775806", "9223372036854775807", "9223372036854775808", "9223372036854775809", "9223372036854775810", "9999999999999999999", "10000000000000000000", "18446744073709551615", "18446744073709551616", "18446744073709551617", "27670116110564327424", "92233720368547758080",
		"0x7fffffffffffffff", "0x8000000000000000", "0x8000000000000001", "0xffffffffffffffff", "0x10000000000000000", "0x18000000000000000"} {
		wantLex(t, run)
		wantLex(t, run[:5]+"_"+run[5:])
		wantLex(t, "0"+run)
		wantLex(t, strings.Replace(run, "0x", "0x"+strings.Repeat("0", 100), 1))
		wantLex(t, strings.Replace(run, "0x", "0x"+strings.Repeat("0_", 100), 1))
	}
	wantTokens(t, "9_223_372_036_854_775_808", number(-1<<63))
	wantTokens(t, "9223372036854775807", number(1<<63-1))
	wantTokens(t, "0x"+strings.Repeat("0", 253)+"a", number(10))
	wantTokens(t, "0x"+strings.Repeat("0", 238)+"8000000000000000", number(-1<<63))
	for _, digits := range []string{"9", "1", "0"} {
		wantError(t, strings.Repeat(digits, 256), api.ErrNumber, 0)
		wantError(t, "- "+strings.Repeat(digits, 21), api.ErrNumber, 2)
	}
	for n := range 5000 {
		wantTokens(t, strconv.Itoa(n), number(int64(n)))
		wantTokens(t, "0x"+strconv.FormatInt(int64(n), 16), number(int64(n)))
		wantTokens(t, "0x"+strings.ToUpper(strconv.FormatInt(int64(n), 16)), number(int64(n)))
	}
}

// P7.2: names up to MaxName bytes, keywords and what is near them.
func TestNamesAndWords(t *testing.T) {
	for size := 1; size <= 255; size++ {
		for _, piece := range []string{"a", "Z", "_"} {
			run := strings.Repeat(piece, size)
			if size <= 8 {
				wantTokens(t, run, name(run))
				wantTokens(t, run+"("+run, name(run), at(size, mark("(")), at(size+1, name(run)))
			} else {
				wantError(t, run, api.ErrToken, 0)
			}
		}
	}
	for keyword := range strings.FieldsSeq(bookKeywords) {
		wantTokens(t, keyword, word(keyword))
		wantTokens(t, keyword+"{"+keyword, word(keyword), at(len(keyword), mark("{")), at(len(keyword)+1, word(keyword)))
		for _, near := range []string{strings.ToUpper(keyword), keyword + "s", keyword + "_", "_" + keyword, keyword + "0"} {
			wantTokens(t, near, name(near))
		}
		wantLex(t, "0"+keyword)
		wantError(t, keyword+keyword+keyword+keyword+"_", api.ErrToken, 0)
	}
}

// P7.2: literals of values at their bound; what Unquote refuses is ErrString where the literal begins.
func TestLiterals(t *testing.T) {
	for many := range 24 {
		for _, piece := range []string{"x", "é", `\n`, `\x41`, `\"`, "#", ";"} {
			wantLex(t, `a="`+strings.Repeat(piece, many)+`"b`)
			wantLex(t, `a="`+strings.Repeat(piece, many))
		}
	}
	wantTokens(t, `"`+strings.Repeat("x", 20)+`"`, literal(strings.Repeat("x", 20)))
	wantTokens(t, `"`+strings.Repeat(`\xff`, 20)+`"`, literal(strings.Repeat("\xff", 20)))
	wantError(t, `"`+strings.Repeat("x", 21)+`"`, api.ErrString, 0)
	wantError(t, `"`+strings.Repeat("é", 11)+`"`, api.ErrString, 0)
	wantTokens(t, `"""a"b 1"c"`, literal(""), at(2, literal("a")), at(5, name("b")), at(7, number(1)), at(8, literal("c")))
	for _, broken := range []string{`"`, `"a`, `"\"`, `"\q"`, `"\x4"`, "\"a\nb\"", "\"\t\"", "\"\x7f\"", "\"\x00\""} {
		wantError(t, "n = "+broken, api.ErrString, 4)
	}
}

// P7.2: what stands farthest to the left is the answer.
func TestTheLeftmostError(t *testing.T) {
	wrong := map[string]api.Errno{"!": api.ErrToken, "?": api.ErrToken, "@": api.ErrToken, "€": api.ErrToken, "\x00": api.ErrToken, "\u00a0": api.ErrToken, "\u2028": api.ErrToken, "\v": api.ErrToken, "\f": api.ErrToken, "\x7f": api.ErrToken, "abcdefghi": api.ErrToken, "007": api.ErrNumber, "1e3": api.ErrNumber, "9223372036854775809": api.ErrNumber, `"\q"`: api.ErrString}
	for left, e := range wrong {
		for right := range wrong {
			for _, ahead := range []string{"", "n = 1; ", "# !\n", `"a" `, "\t\r\n "} {
				wantError(t, ahead+left+" "+right, e, len(ahead))
			}
		}
	}
}

// P7.2: the byte at each place of a source is each byte in turn.
func TestSourcesNearOne(t *testing.T) {
	for _, src := range []string{"if has tag and n>=0x1_f {n min= 10_0} # é\nelse{clear tag}", `tag = cat(tag ?? "", "a\x0fé\"");n += -9223372036854775808`, "#"} {
		wantLex(t, src)
		for place := range len(src) + 1 {
			for c := range 256 {
				one := string([]byte{byte(c)})
				wantLex(t, src[:place]+one+src[place:])
				wantLex(t, src[:place]+one+src[min(place+1, len(src)):])
			}
			wantLex(t, src[:place])
			wantLex(t, src[place:])
			wantLex(t, src[:place]+src[min(place+1, len(src)):])
		}
	}
}

// Blanks and comments part tokens, and do nothing else.
func TestBlanksAndComments(t *testing.T) {
	between := []string{" ", "\t", "\n", "\r", "#\n", "# \"é!\n", "##\r\n", " # a\n\n\t"}
	for _, one := range between {
		for _, two := range between {
			space := one + two
			wantTokens(t, space)
			wantTokens(t, space+"a"+space+"1"+space, at(len(space), name("a")), at(2*len(space)+1, number(1)))
			wantTokens(t, "="+space+"=", mark("="), at(len(space)+1, mark("=")))
		}
	}
	wantTokens(t, "a#b\rc", name("a"))
	wantTokens(t, "a#b\nc", name("a"), at(4, name("c")))
	wantTokens(t, "#")
	wantTokens(t, "#\n")
	wantTokens(t, "#\n#")
	wantTokens(t, strings.Repeat("#\n", 128))
}

// P7.4
func TestKeyword(t *testing.T) {
	for keyword := range strings.FieldsSeq(bookKeywords) {
		if !lexer.Keyword(keyword) {
			t.Errorf("%q is no keyword", keyword)
		}
		for _, near := range []string{strings.ToUpper(keyword), strings.ToUpper(keyword[:1]) + keyword[1:], keyword + "s", " " + keyword, keyword + " ", keyword + "\x00", keyword[1:], keyword[:len(keyword)-1], keyword + keyword} {
			if lexer.Keyword(near) {
				t.Errorf("%q is a keyword", near)
			}
		}
	}
	for _, other := range []string{"", " ", "int", "bool", "bytes", "n", "=", "\xff", bookKeywords, strings.Repeat("if", 1<<20)} {
		if lexer.Keyword(other) {
			t.Errorf("%.20q is a keyword", other)
		}
	}
	for length := range 4 {
		drill.Scripts(strings.Split("abcdefghijklmnopqrstuvwxyz_", ""), length, func(script []string) {
			if text := strings.Join(script, ""); lexer.Keyword(text) != bookIsKeyword(text) {
				t.Errorf("Keyword(%q) = %v", text, lexer.Keyword(text))
			}
		})
	}
}

// An answer is new memory: who changes one changes no other.
func TestAnswersShareNothing(t *testing.T) {
	const src = `n += 1; tag = "a"`
	first, _, _ := lexer.Lex(src)
	for i := range first {
		first[i] = api.Token{Kind: 9}
	}
	wantTokens(t, src, name("n"), at(2, mark("+=")), at(5, number(1)), at(6, mark(";")), at(8, name("tag")), at(12, mark("=")), at(14, literal("a")))
}
