package syntax_test

import (
	"strings"
	"testing"

	"arbor/api"
	"arbor/syntax"
)

// The chapter's examples, line by line.

func TestExamplesOfSources(t *testing.T) {
	a, b, c := field("a"), field("b"), field("c")
	for _, x := range []struct {
		src  string
		want []api.Stmt
	}{
		{"", nil},
		{" \t\n\r", nil},
		{"new;", list(news())},
		{"n = 1 + 2 * 3 - 4", list(set("n", tree(api.ESub, tree(api.EAdd, number(1), tree(api.EMul, number(2), number(3))), number(4))))},
		{"n min= -5", list(change(api.SMin, "n", number(-5)))},
		{"n min = - 5", list(change(api.SMin, "n", number(-5)))},
		{"n = -9223372036854775808", list(set("n", number(-1<<63)))},
		{"n = not a == b", list(set("n", tree(api.ENot, tree(api.EEq, a, b))))},
		{"n = a ?? b ?? c + 1", list(set("n", tree(api.EElse, a, tree(api.EElse, b, tree(api.EAdd, c, number(1))))))},
		{"if here { n += 1 } else if has t { clear t }", list(choice(here(), list(change(api.SAdd, "n", number(1))), list(choice(has("t"), list(clears("t")), nil))))},
		{"n = not not not not not not not not not not here", list(set("n", nested(api.ENot, 10, here())))},
	} {
		wantProgram(t, x.src, x.want, api.OK, 0)
	}
}

func TestExamplesOfWrongSources(t *testing.T) {
	for _, x := range []struct {
		src string
		e   api.Errno
		at  int
	}{
		{";", api.ErrSyntax, 0},
		{"new;;", api.ErrSyntax, 4},
		{"new new", api.ErrSyntax, 4},
		{"n minimum= 5", api.ErrSyntax, 2},
		{"n = 9223372036854775808", api.ErrSyntax, 4},
		{"n = a - 9223372036854775808", api.ErrSyntax, 8},
		{"n = a == b == c", api.ErrSyntax, 11},
		{"n = a == not b", api.ErrSyntax, 9},
		{"if here { n += 1 }; else { }", api.ErrSyntax, 20},
		{"if here n = 1", api.ErrSyntax, 8},
		{"n =", api.ErrSyntax, 3},
		{"n = ((1)", api.ErrSyntax, 8},
		{strings.Repeat("new;", 32) + "new", api.ErrMany, 128},
		{"n = not not not not not not not not not not not here", api.ErrDepth, 0},
	} {
		wantProgram(t, x.src, nil, x.e, x.at)
	}
}

func TestExamplesOfTexts(t *testing.T) {
	for _, x := range []struct {
		tree []api.Stmt
		want string
	}{
		{nil, ""},
		{list(), ""},
		{list(choice(here(), nil, nil)), "if here { }"},
		{list(choice(here(), nil, list(news()))), "if here { } else { new }"},
	} {
		if got, e := syntax.Print(x.tree); got != x.want || e != api.OK {
			t.Errorf("Print = %q, %d, want %q", got, e, x.want)
		}
	}
	a, b, c := field("a"), field("b"), field("c")
	for _, x := range []struct {
		tree api.Expr
		want string
	}{
		{tree(api.ESub, number(1), tree(api.ESub, number(2), number(3))), "1 - (2 - 3)"},
		{tree(api.ESub, tree(api.ESub, number(1), number(2)), number(3)), "1 - 2 - 3"},
		{tree(api.EElse, tree(api.EElse, a, b), c), "(a ?? b) ?? c"},
		{tree(api.ENeg, number(5)), "-(5)"},
		{tree(api.ENeg, number(-5)), "--5"},
		{tree(api.ENeg, tree(api.ENeg, a)), "--a"},
		{tree(api.EMul, a, number(-5)), "a * -5"},
		{tree(api.ENeg, tree(api.EMul, a, b)), "-(a * b)"},
		{tree(api.EEq, tree(api.EEq, a, b), c), "(a == b) == c"},
		{tree(api.ENot, tree(api.EAnd, a, b)), "not (a and b)"},
		{tree(api.EAnd, tree(api.ENot, a), b), "not a and b"},
	} {
		if got, e := syntax.PrintExpr(x.tree); got != x.want || e != api.OK {
			t.Errorf("PrintExpr = %q, %d, want %q", got, e, x.want)
		}
	}
}

func TestExamplesOfWrongTrees(t *testing.T) {
	for _, x := range []api.Expr{
		{Op: api.EBytes, N: 1},
		tree(api.EAdd, number(1), number(2), number(3)),
		field("min"),
	} {
		wantWrong(t, x)
	}
	named := choice(here(), nil, nil)
	named.Field = "n"
	wantWrongProgram(t, list(named))
}
