package lower_test

import (
	"slices"
	"strings"
	"testing"

	"arbor/api"
	"arbor/code"
	"arbor/drill"
	"arbor/lower"
	"arbor/syntax"
	"arbor/typing"
	"arbor/value"
)

// bookCompile: the error and the place that the promise says.
func bookCompile(s api.Schema, src string) ([]api.Stmt, api.Errno, int) {
	if value.CheckSchema(s) != api.OK {
		return nil, api.ErrSchema, 0
	}
	p, e, at := syntax.Parse(src)
	if e != api.OK {
		return nil, e, at
	}
	if e, number := typing.Check(s, p); e != api.OK {
		return nil, e, number
	}
	if drill.CodeSize(bookPlain(s, p)) > 96 {
		return nil, api.ErrBig, 0
	}
	return p, api.OK, 0
}

// wantCompile: P12.5 and P12.6 of any source.
func wantCompile(t *testing.T, s api.Schema, src string, rows []api.Row) api.Errno {
	t.Helper()
	p, want, place := bookCompile(s, src)
	b, e, at := lower.Compile(s, src)
	if e != want || at != place || e != api.OK && len(b) > 0 {
		t.Fatalf("Compile(%q) = % x, %d, %d, want %d, %d", src, b, e, at, want, place)
	}
	if e != api.OK {
		return e
	}
	is, wrong := code.Decode(b)
	if wrong != api.OK || len(b) > 96 || !slices.Equal(is, wantLower(t, s, p, rows)) {
		t.Fatalf("Compile(%q) = % x: %d", src, b, wrong)
	}
	wantMeaning(t, s, p, is, rows)
	return e
}

// P12.4, P12.6: every program of four statements out of some: sums, things that undo one another, ifs and literals side by side.
func TestEveryFewStatements(t *testing.T) {
	s := drill.SchemaOf(exampleSchema)
	rows := exampleRows()
	var list []api.Stmt
	for _, src := range []string{
		"n += 1", "n += -64", "m += 3", "n += 1 + 2 * 3", "n = - - n", "on = not not not on", "on = not (n > 1)", "if has m { n += 1; n += 2 }",
		"if not not here { n += 9223372036854775807 } else { new }", "on = not (on and not here)", "n = pick(on, -n, - -(1 - 2))",
	} {
		list = append(list, drill.ProgramOf(src)...)
	}
	drill.Scripts(list, 3, func(p []api.Stmt) {
		wantLower(t, s, p, rows)
		wantLower(t, s, []api.Stmt{p[0], drill.Choice(drill.ExprOf("has m"), p[1:2], p[2:])}, rows)
	})
}

// P12.4: what has slack as it is written, and how short it is at most.
func TestLowerIsShort(t *testing.T) {
	s := drill.SchemaOf(exampleSchema)
	for _, c := range []struct {
		src  string
		most int // bytes
	}{
		{"", 0}, {"n += 1; n += 2", 4}, {"n += 1; n += 2; n += 3; n += 4", 4}, {"n += 63; n += 1", 5}, {"n = 1 + 2 * 3", 4}, {"on = not (1 < 2)", 3},
		{"on = not not on", 4}, {"n = - - n", 4}, {"on = not (n > 1)", 7}, {`tag = cat("ab", "c")`, 7}, {`n = len("abcdefghijklmnopqrst")`, 4},
		{"n = - - - n", 5}, {"if on { n += 1; n += 2 }", 8}, {"n = pick(1 < 2, 3, 4)", 4}, {"n += 1; n += -1", 4}, {"if not (n != 1) { delete }", 8},
	} {
		if is := wantLower(t, s, drill.ProgramOf(c.src), exampleRows()); drill.CodeSize(is) > c.most {
			t.Errorf("Lower(%s) = %s: %d bytes, want %d at most", c.src, drill.ShownCode(is), drill.CodeSize(is), c.most)
		}
	}
}

// P12.4, P12.5: the plain code has MaxCode bytes, or one more, whatever comes of it.
func TestEdgeOfBig(t *testing.T) {
	s := drill.SchemaOf(exampleSchema)
	bytes20, sum, minus := `tag = "01234567890123456789"; `, "n += 1; ", "n = -n; " // 24, 4, 5 bytes
	literal := "9223372036854775807"
	for _, c := range []struct {
		src  string
		size int
	}{
		{strings.Repeat(bytes20, 4), 96},
		{strings.Repeat(bytes20, 3) + strings.Repeat(sum, 6), 96},
		{strings.Repeat(bytes20, 3) + strings.Repeat(sum, 5) + minus, 97},
		{strings.Repeat(bytes20, 4) + "new", 97},
		{strings.Repeat(sum, 24), 96},
		{strings.Repeat(sum, 23) + minus, 97},
		{strings.Repeat(sum, 23) + "delete; new; delete; new", 96},
		{"n = " + strings.Join(slices.Repeat([]string{literal}, 8), " * "), 97},
		{"n = " + ones(31), 94},
		{"n = " + ones(31) + "; new; new", 96},
		{"n = " + ones(31) + "; new; new; new", 97},
		{"n = " + ones(32), 97},
	} {
		p := drill.ProgramOf(c.src)
		if size := drill.CodeSize(wantPlain(t, s, p)); size != c.size {
			t.Errorf("%s: a size of %d, want %d", c.src, size, c.size)
		}
		wantLower(t, s, p, exampleRows())
		if e := wantCompile(t, s, c.src, exampleRows()); (e == api.ErrBig) != (c.size > 96) {
			t.Errorf("Compile(%s): %d", c.src, e)
		}
	}
}

// ones: so many of them, added up, and not deep.
func ones(n int) string {
	if n == 1 {
		return "1"
	}
	return "(" + ones(n/2) + "+" + ones(n-n/2) + ")"
}

// P12.5: of several errors the first one of the chapter is told, with its place.
func TestOrderOfErrorsOfCompile(t *testing.T) {
	s := drill.SchemaOf(exampleSchema)
	big := strings.Repeat(`tag = "01234567890123456789";`, 5)
	for _, c := range []struct {
		src string
		e   api.Errno
		at  int
	}{
		{"n = \x80 ; x = @", api.ErrUTF8, 4}, {"new; @", api.ErrToken, 5}, {"n = 007", api.ErrNumber, 4}, {`n = "a`, api.ErrString, 4}, {`x = 1; n = "a`, api.ErrString, 11},
		{strings.Repeat(" ", 257), api.ErrSource, 0}, {strings.Repeat(" ", 256), api.OK, 0}, {strings.Repeat("@", 257), api.ErrSource, 0},
		{"x = 1; n = ", api.ErrSyntax, 11}, {"n = on; n", api.ErrSyntax, 9}, {"n = a == b == c", api.ErrSyntax, 11},
		{strings.Repeat("new;", 33), api.ErrMany, 128}, {strings.Repeat("x=1;", 33), api.ErrMany, 128}, {strings.Repeat("new;", 32), api.OK, 0},
		{"x = " + strings.Repeat("not ", 11) + "here", api.ErrDepth, 0}, {"on = " + strings.Repeat("not ", 10) + "here", api.OK, 0},
		{"x = 1", api.ErrField, 0}, {"new; x = 1; n = on", api.ErrField, 1}, {"new; n = on; x = 1", api.ErrType, 1}, {"new; new; n = m", api.ErrOptional, 2},
		{"if here { new; if on { } else { n = on } }", api.ErrType, 3}, {"if here { new } else { new; clear n }", api.ErrOptional, 3},
		{big, api.ErrBig, 0}, {big + "x = 1", api.ErrField, 5}, {big + "n = ", api.ErrSyntax, 149}, {big + "n = on", api.ErrType, 5},
	} {
		b, e, at := lower.Compile(s, c.src)
		if e != c.e || at != c.at || e != api.OK && len(b) > 0 {
			t.Errorf("Compile(%q) = % x, %d, %d, want %d, %d", c.src, b, e, at, c.e, c.at)
		}
		wantCompile(t, s, c.src, exampleRows())
		for _, none := range drill.WrongSchemas() {
			if b, e, at := lower.Compile(none, c.src); len(b) > 0 || e != api.ErrSchema || at != 0 {
				t.Errorf("Compile(%q) of no schema = % x, %d, %d", c.src, b, e, at)
			}
		}
	}
	if b, e, at := lower.Compile(s, strings.Repeat("new;", 1<<20)); len(b) > 0 || e != api.ErrSource || at != 0 {
		t.Errorf("Compile of a long source = % x, %d, %d", b, e, at)
	}
}

// P12.5, P12.6: texts of programs, and what is a byte or a piece away from them.
func TestCompileOfSpoiledSources(t *testing.T) {
	numbers := drill.Numbers(129)
	for _, s := range drill.Schemas() {
		fitting := drill.Fitting{Schema: s, Numbers: &numbers}
		met, base := map[api.Errno]int{}, fitting.Rows(0)
		for i := range 6000 {
			src := drill.Shown(fitting.Program(2 + i%3))
			if len(src) > 0 && i%3 > 0 {
				from := numbers.Below(len(src))
				to := min(len(src), from+numbers.Below(4))
				piece := drill.Pick(&numbers, []string{"", "x", "n", " ", "on", "@", "not ", ";", "5", "m", "}", "\x80", "\"", "- ", "# "})
				src = src[:from] + piece + src[to:]
			}
			met[wantCompile(t, s, src, append(base, fitting.Row()))]++
		}
		for _, e := range []api.Errno{api.OK, api.ErrSource, api.ErrUTF8, api.ErrToken, api.ErrString, api.ErrSyntax, api.ErrField, api.ErrType, api.ErrOptional, api.ErrBig} {
			if met[e] == 0 {
				t.Errorf("no source answered %d: %v", e, met)
			}
		}
	}
}

// W1: blanks and comments mean nothing to the code.
func TestCompileOfOtherTexts(t *testing.T) {
	s := drill.SchemaOf(exampleSchema)
	want, _, _ := lower.Compile(s, "n += 1; if has m { clear m }")
	for _, src := range []string{"n+=1;if has m{clear m}", " n += 1 ; if has m { clear m ; } ;", "n += 1; # more\nif has m { clear m }", "n += 0x1; if (has m) { clear m } else { }"} {
		if b, e, at := lower.Compile(s, src); !slices.Equal(b, want) || e != api.OK || at != 0 {
			t.Errorf("Compile(%q) = % x, %d, %d, want % x", src, b, e, at, want)
		}
	}
}
