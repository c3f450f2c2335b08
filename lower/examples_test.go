package lower_test

import (
	"bytes"
	"slices"
	"strings"
	"testing"

	"arbor/api"
	"arbor/code"
	"arbor/drill"
	"arbor/lower"
)

// The chapter's examples, one by one.

const exampleSchema = "n:int,m:int?,on:bool,tag:bytes?"

// exampleRows: rows of the examples' schema, of each kind.
func exampleRows() []api.Row {
	s := drill.SchemaOf(exampleSchema)
	rows := []api.Row{{}}
	for _, text := range []string{"{}", "{n=5,on=true}", "{n=-7,m=0}", `{n=1,m=9223372036854775807,on=true,tag=""}`, `{n=-9223372036854775808,m=-1,tag="abcdefghijklmnopqrst"}`} {
		rows = append(rows, drill.RowOf(s, text))
	}
	return rows
}

// Examples 1 to 5.
func TestExamplesOfPlain(t *testing.T) {
	s := drill.SchemaOf(exampleSchema)
	for _, c := range [][2]string{
		{"n += 5", "push 5; addto 0"},
		{"n = m ?? n + 1", "has 1; unless 2; load 1; jump 3; load 0; push 1; add; store 0"},
		{"m = m", "has 1; unless 3; load 1; store 1; jump 1; clear 1"},
		{"m min= 3", "has 1; unless 2; load 1; jump 1; push 9223372036854775807; push 3; min; store 1"},
		{"if on and n > 0 { delete } else { new }", "load 2; unless 5; load 0; push 0; le; not; jump 1; false; unless 2; delete; jump 1; new"},
	} {
		p := drill.ProgramOf(c[0])
		is, e := lower.Plain(s, p)
		if got := drill.ShownCode(is); got != c[1] || e != api.OK {
			t.Errorf("Plain(%s) = %s, %d, want %s", c[0], got, e, c[1])
		}
		wantPlain(t, s, p)
		wantMeaning(t, s, p, is, exampleRows())
		wantLower(t, s, p, exampleRows())
	}
}

// Example 1: nothing shorter does the same.
func TestExampleOfBytes(t *testing.T) {
	b, e, at := lower.Compile(drill.SchemaOf(exampleSchema), "n += 5")
	if !bytes.Equal(b, []byte{0x01, 0x0a, 0x15, 0x00}) || e != api.OK || at != 0 {
		t.Errorf("Compile(n += 5) = % x, %d, %d", b, e, at)
	}
}

// Example 6.
func TestExamplesOfFold(t *testing.T) {
	s := drill.SchemaOf(exampleSchema)
	for _, c := range [][2]string{
		{"1 + 2 * n + min(3, 4)", "1 + 2 * n + 3"},
		{"not (1 < 2)", "false"},
		{"pick(true, n, 1 + 1)", "pick(true, n, 2)"},
		{`cat("abcdefghijkl", "mnopqrstuvwxyz")`, `"abcdefghijklmnopqrst"`},
	} {
		x := drill.ExprOf(c[0])
		if got := drill.ShownExpr(bookFolded(s, x)); got != c[1] {
			t.Errorf("the folded form of %s is %s, want %s", c[0], got, c[1])
		}
		if got := wantFold(t, s, x, exampleRows()); isLiteral(drill.ExprOf(c[1])) && drill.ShownExpr(got) != c[1] {
			t.Errorf("Fold(%s) = %s, want %s", c[0], drill.ShownExpr(got), c[1])
		}
	}
}

// Example 7.
func TestExampleOfTwoSums(t *testing.T) {
	s := drill.SchemaOf(exampleSchema)
	p := drill.ProgramOf("n += 1; n += 2")
	if slack := drill.Slack(s, wantPlain(t, s, p)); slack == "" {
		t.Error("the plain code has no slack")
	}
	if is := wantLower(t, s, p, exampleRows()); len(is) > 2 {
		t.Errorf("Lower(n += 1; n += 2) = %s", drill.ShownCode(is))
	}
}

// Example 8.
func TestExamplesOfPeephole(t *testing.T) {
	s := drill.SchemaOf(exampleSchema)
	for _, c := range [][2]string{
		{"jump 1; new; delete", "delete"},
		{"load 2; not; not; unless 0", "load 2; unless 0"},
	} {
		is := drill.CodeOf(c[0])
		if got := wantPeephole(t, s, is, exampleRows()); len(got) > len(drill.CodeOf(c[1])) {
			t.Errorf("Peephole(%s) = %s", c[0], drill.ShownCode(got))
		}
	}
}

// Examples 9 and 10.
func TestExamplesOfCompile(t *testing.T) {
	s := drill.SchemaOf(exampleSchema)
	long := slices.Repeat([]string{`tag = "01234567890123456789"`}, 5)
	for _, c := range []struct {
		src string
		e   api.Errno
		at  int
	}{
		{"n = tag", api.ErrType, 0},
		{"n = 1; m = on", api.ErrType, 1},
		{"n +", api.ErrSyntax, 2},
		{"n = 1" + strings.Repeat(" ", 252), api.ErrSource, 0},
		{strings.Join(long, ";"), api.ErrBig, 0},
		{strings.Join(long[:4], ";"), api.OK, 0},
	} {
		b, e, at := lower.Compile(s, c.src)
		if e != c.e || at != c.at || e != api.OK && len(b) > 0 {
			t.Errorf("Compile(%s) = % x, %d, %d, want %d, %d", c.src, b, e, at, c.e, c.at)
		}
	}
	for n, size := range []int{0, 24, 48, 72, 96, 120} {
		if got := drill.CodeSize(wantPlain(t, s, drill.ProgramOf(strings.Join(long[:n], ";")))); got != size {
			t.Errorf("%d times: a size of %d, want %d", n, got, size)
		}
	}
}

// The sizes of the examples' head, and the book's are those of the bytes.
func TestSizes(t *testing.T) {
	for text, size := range map[string]int{"push 5": 2, "push 64": 3, "load 0": 2, "store 0": 2, "addto 0": 2, "has 1": 2, "clear 1": 2, "unless 9": 2, "jump 9": 2, `bytes ""`: 2, `bytes "abc"`: 5, "true": 1, "cat": 1, "new": 1, "push 9223372036854775807": 11, "push -9223372036854775808": 11, "push 63": 2, "push -64": 2, "push -65": 3} {
		is := drill.CodeOf(text)
		b, e := code.Encode(is...)
		if got := drill.CodeSize(is); got != size || len(b) != size || e != api.OK {
			t.Errorf("%s has a size of %d and %d bytes, want %d", text, got, len(b), size)
		}
	}
}
