package syntax_test

import (
	"slices"
	"strings"
	"testing"

	"arbor/api"
	"arbor/drill"
	"arbor/lexer"
	"arbor/syntax"
)

// nested: so many operations of one kid, one in another, around an expression.
func nested(op, times int, e api.Expr) api.Expr {
	for range times {
		e = tree(op, e)
	}
	return e
}

const allTexts = `n 7 9223372036854775808 "s" and cat clear delete else false has here if len max min new not or pick true == != <= >= += ?? = < > + - * ( ) { } , ;`

// P8.1: every short row of tokens is a program, the beginning of one, or wrong at a token.
func TestEveryShortProgram(t *testing.T) {
	growPrograms(t, allTexts, 4)
}

// P8.1: statements, blocks and what stands between them.
func TestEveryRowOfStatements(t *testing.T) {
	growPrograms(t, "n = new clear if here { } else ;", 9)
}

// P8.2: every short row of tokens is an expression, the beginning of one, or wrong at a token.
func TestEveryShortExpr(t *testing.T) {
	growExprs(t, allTexts, 3)
}

// P8.1, P8.2: which operator binds what.
func TestEveryRowOfOperators(t *testing.T) {
	growExprs(t, "a 7 - + * ?? == and or not", 5)
	growExprs(t, "a - * ?? < not ( )", 6)
	growExprs(t, "7 9223372036854775808 - ( )", 6)
	growExprs(t, "a min len pick ( ) ,", 7)
}

// P8.1: all comparisons, and operators of all ranks in every order.
func TestEveryOrderOfOperators(t *testing.T) {
	drill.Scripts(strings.Fields("or and == != < <= > >= ?? + - *"), 2, func(between []string) {
		wantParseExpr(t, "a "+between[0]+" b "+between[1]+" c")
		wantParseExpr(t, "a "+between[0]+" (b "+between[1]+" c)")
	})
	drill.Scripts(strings.Fields("or and == < ?? + - *"), 3, func(between []string) {
		for _, ahead := range []string{"", "not ", "- ", "- 5 * "} {
			wantParseExpr(t, ahead+"a "+between[0]+" b "+between[1]+" c "+between[2]+" d")
			wantParseExpr(t, "a "+between[0]+" "+ahead+"b "+between[1]+" (c "+between[2]+" d)")
		}
	})
}

// P8.1: a program is wrong at the same token, and means the same, whatever blanks and comments stand between.
func TestBlanksAndCommentsMeanNothing(t *testing.T) {
	for _, tokens := range []string{"n min = - 5", "n = - 9223372036854775808", "if here { n += 1 } else if a { }", "n = a == b == c", "new ; ;", "n =", "n = - - 5 - - a"} {
		parts := strings.Fields(tokens)
		for _, gap := range []string{" ", "  ", "\n", "\t\r", " # x ; } new\n", "#\n#é\n"} {
			for _, end := range []string{"", " ", "\n", "# n = 1"} {
				src := gap + strings.Join(parts, gap) + end
				wantParse(t, src)
				plain, e, _ := syntax.Parse(tokens)
				if got, errno, _ := syntax.Parse(src); !drill.Same(got, plain) || errno != e {
					t.Errorf("Parse(%q) = %v, %d, want %v, %d", src, got, errno, plain, e)
				}
			}
		}
	}
	wantProgram(t, "n=--5+-a", list(set("n", tree(api.EAdd, tree(api.ENeg, number(-5)), tree(api.ENeg, field("a"))))), api.OK, 0)
	wantProgram(t, "n=  # five", nil, api.ErrSyntax, 10)
}

// P8.1: what the lexer refuses has the lexer's error and place, whatever the tokens ahead of it are.
func TestLexersErrorsComeFirst(t *testing.T) {
	for _, x := range []struct {
		src string
		e   api.Errno
		at  int
	}{
		{";; !", api.ErrToken, 3},
		{"new new \xff", api.ErrUTF8, 8},
		{"# \xff", api.ErrUTF8, 2},
		{"n = ; 007", api.ErrNumber, 6},
		{"n = ; 9223372036854775809", api.ErrNumber, 6},
		{") \"a", api.ErrString, 2},
		{"} \"" + strings.Repeat("x", 21) + "\"", api.ErrString, 2},
		{"abcdefghi = 1", api.ErrToken, 0},
		{strings.Repeat("new;", 33) + "?", api.ErrToken, 132},
		{strings.Repeat(" ", 257), api.ErrSource, 0},
		{strings.Repeat(";", 1<<20), api.ErrSource, 0},
	} {
		wantProgram(t, x.src, nil, x.e, x.at)
		wantTree(t, x.src, api.Expr{}, x.e, x.at)
	}
	wantProgram(t, strings.Repeat(" ", 256), nil, api.OK, 0)
	wantTree(t, strings.Repeat(" ", 256), api.Expr{}, api.ErrSyntax, 256)
}

// P8.1: texts of literals are no words and no marks.
func TestLiteralsAreNoWords(t *testing.T) {
	for text := range strings.FieldsSeq(allTexts) {
		if text[0] == '"' {
			continue
		}
		src := `n = "` + text + `"`
		wantProgram(t, src, list(set("n", bytes(text))), api.OK, 0)
		wantParse(t, `if here "`+text+`" }`)
		wantParse(t, `"`+text+`" = 1`)
		wantParse(t, `n "`+text+`" 1`)
		wantParse(t, `new "`+text+`" new`)
		wantParse(t, `n = a "`+text+`" b`)
		wantParse(t, `n = "`+text+`" b`)
		wantParse(t, `clear "`+text+`"`)
	}
}

// P8.1: numbers in all their forms, and where the great one may stand.
func TestNumbers(t *testing.T) {
	for _, x := range []struct {
		src  string
		want api.Expr
	}{
		{"0", number(0)},
		{"-0", number(0)},
		{"9223372036854775807", number(1<<63 - 1)},
		{"-9223372036854775807", number(-1<<63 + 1)},
		{"-9_223372036854775808", number(-1 << 63)},
		{"- 0x8000_0000_0000_0000", number(-1 << 63)},
		{"--9223372036854775808", tree(api.ENeg, number(-1<<63))},
		{"a - -9223372036854775808", tree(api.ESub, field("a"), number(-1<<63))},
		{"-9223372036854775808 - 1", tree(api.ESub, number(-1<<63), number(1))},
		{"-5 * a", tree(api.EMul, number(-5), field("a"))},
		{"- -5", tree(api.ENeg, number(-5))},
		{"-(5)", tree(api.ENeg, number(5))},
		{"-(-5)", tree(api.ENeg, number(-5))},
		{"-a * -5", tree(api.EMul, tree(api.ENeg, field("a")), number(-5))},
		{"5 -5", tree(api.ESub, number(5), number(5))},
	} {
		wantTree(t, x.src, x.want, api.OK, 0)
	}
	for src, place := range map[string]int{
		"9223372036854775808": 0, "0x8000000000000000": 0, "-(9223372036854775808)": 2, "not 9223372036854775808": 4,
		"1 - 9223372036854775808": 4, "(1) - 9223372036854775808": 6, "-1 -9223372036854775808": 4, "min(9223372036854775808, 1)": 4, "-\"a\" - 9223372036854775808": 7,
	} {
		wantTree(t, src, api.Expr{}, api.ErrSyntax, place)
	}
}

// P8.1: an empty block behind an else means the same as none.
func TestElseWithoutStatementsIsNone(t *testing.T) {
	bare := list(choice(here(), nil, nil))
	for _, src := range []string{"if here { }", "if here{}else{}", "if here { } else { # new\n }", "if (here) {} ;"} {
		wantProgram(t, src, bare, api.OK, 0)
	}
	wantProgram(t, "if here { } else if here { }", list(choice(here(), nil, bare)), api.OK, 0)
	wantProgram(t, "if here { } else { if here { } }", list(choice(here(), nil, bare)), api.OK, 0)
}

// blocked: so many statements inside so many ifs, the innermost block's in a row.
func blocked(ifs, statements int) string {
	return strings.Repeat("if a{", ifs) + strings.Repeat("new;", statements) + strings.Repeat("}", ifs)
}

// P8.1: 32 statements are enough for all blocks together; the 33rd is told by its first token.
func TestManyStatements(t *testing.T) {
	for ifs := range 9 {
		for statements := range 40 {
			wantParse(t, blocked(ifs, statements))
		}
	}
	wantProgram(t, blocked(3, 30), nil, api.ErrMany, 15+29*4)
	chain := "if a{}" + strings.Repeat("else if a{}", 11)
	for extra := range 24 {
		wantParse(t, strings.Repeat("new;", extra)+chain)
		wantParse(t, chain+strings.Repeat(";new", extra))
		wantParse(t, "if a{"+strings.Repeat("new;", extra)+"}else{"+strings.Repeat("new;", 18)+"}")
	}
	// The one too many is the "if" behind an "else", and an if that holds others.
	wantProgram(t, strings.Repeat("new;", 31)+"if a{}else if a{}", nil, api.ErrMany, 124+11)
	wantProgram(t, strings.Repeat("new;", 32)+"if a{new;new}", nil, api.ErrMany, 128)
	wantProgram(t, "if a{"+strings.Repeat("new;", 31)+"}else{n=1}", nil, api.ErrMany, 5+124+6)
}

// P8.1: of several errors the grammar's comes first, then the number of statements, then the depth.
func TestOrderOfErrors(t *testing.T) {
	many, deep := strings.Repeat("new;", 33), "n = "+strings.Repeat("-", 12)+"a"
	wantProgram(t, many+";", nil, api.ErrSyntax, 132)
	wantProgram(t, many+"n =", nil, api.ErrSyntax, 135)
	wantProgram(t, many+deep, nil, api.ErrMany, 128)
	wantProgram(t, deep+";"+many, nil, api.ErrMany, len(deep)+1+31*4)
	wantProgram(t, deep+";;", nil, api.ErrSyntax, len(deep)+1)
	wantProgram(t, deep, nil, api.ErrDepth, 0)
	wantProgram(t, "  "+deep, nil, api.ErrDepth, 0)
	wantTree(t, strings.Repeat("-", 12)+"a b", api.Expr{}, api.ErrSyntax, 14)
	wantTree(t, " "+strings.Repeat("-", 12)+"a", api.Expr{}, api.ErrDepth, 0)
	wantTree(t, strings.Repeat("-", 12)+"a", api.Expr{}, api.ErrDepth, 0)
	wantTree(t, strings.Repeat("-", 11)+"a", nested(api.ENeg, 11, field("a")), api.OK, 0)
}

// P8.1, P8.2: depth by every operation, on every side; parentheses do not count.
func TestDepth(t *testing.T) {
	for _, around := range []string{
		"not #", "-(#)", "len(#)", "(# + 1)", "(1 + #)", "# - 1", "1 * (#)", "# or a", "(a and (#))", "a ?? #", "(#) ?? a", "(#) < 1", "1 >= (#)",
		"min(#, 1)", "max(1, #)", "cat(#, #)", "pick(#, 1, 2)", "pick(1, #, 2)", "pick(1, 2, #)",
	} {
		for times := 8; times < 14; times++ {
			for _, inner := range []string{"a", "(((a)))"} {
				src := inner
				for range times {
					src = strings.ReplaceAll(around, "#", src)
				}
				if len(src) <= api.MaxSource {
					wantParseExpr(t, src)
					wantParse(t, "n = "+src)
					wantParse(t, "if "+src+" { }")
					wantParse(t, "if a { n = "+src+" }")
					wantParse(t, "if a { } else if "+src+" { }")
				}
			}
		}
	}
	for ifs := range 20 {
		wantParse(t, blocked(ifs, 0))
		wantParse(t, blocked(ifs, 1))
		wantParse(t, strings.Repeat("if a{", ifs)+"n=1"+strings.Repeat("}", ifs))
		wantParse(t, "if a{}"+strings.Repeat("else if a{}", ifs))
	}
	wantTree(t, strings.Repeat("(", 127)+"7"+strings.Repeat(")", 127), number(7), api.OK, 0)
}

// P8.1: the longest and most nested sources there are.
func TestLongSources(t *testing.T) {
	for _, part := range []string{"(", ")", "{", "}", "-", "not ", "if a{", "if(", "n=", "a+", "a??", "1*", "min(", "pick(", "a or ", "new;", "clear a;", ";", ",", "else ", "else if a{}", "has ", "\"", "9", "n"} {
		for _, ahead := range []string{"", "n=", "if ", "if a{", "n=-"} {
			src := ahead + strings.Repeat(part, 300/len(part))
			for _, size := range []int{255, 256, 257} {
				wantParse(t, src[:size])
				wantParseExpr(t, src[:size])
			}
		}
	}
}

// P8.1: programs of all kinds, whole and with one token away, one more, or another one.
func TestProgramsOneTokenAway(t *testing.T) {
	texts := strings.Fields(allTexts)
	numbers := drill.Numbers(8)
	for range 60 {
		src := bookPrint(anyProgram(&numbers, 3))
		tokens, e, _ := lexer.Lex(src)
		if e != api.OK {
			continue
		}
		wantParse(t, src)
		var parts []string
		for _, token := range tokens {
			text, _ := lexer.Join(token)
			parts = append(parts, text)
		}
		for i := range parts {
			other := texts[numbers.Below(len(texts))]
			wantParse(t, strings.Join(parts[:i], " "))
			wantParse(t, strings.Join(slices.Delete(slices.Clone(parts), i, i+1), " "))
			wantParse(t, strings.Join(slices.Insert(slices.Clone(parts), i, other), "\n"))
			wantParse(t, strings.Join(slices.Replace(slices.Clone(parts), i, i+1, other), "  "))
		}
	}
}

// P8.1, P8.2: any bytes at all.
func TestAnySources(t *testing.T) {
	numbers := drill.Numbers(80)
	pieces := append(strings.Fields(allTexts), " ", "#", "\n", "!", "?", "é", "\xff", "\x00", "0x", "min=", "max=")
	for range 3000 {
		var src strings.Builder
		for range numbers.Below(12) {
			src.WriteString(pieces[numbers.Below(len(pieces))])
			if numbers.Below(3) > 0 {
				src.WriteByte(' ')
			}
		}
		wantParse(t, src.String())
		wantParseExpr(t, src.String())
	}
}
