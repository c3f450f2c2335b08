package lower_test

import (
	"slices"
	"strconv"
	"strings"
	"testing"

	"arbor/api"
	"arbor/code"
	"arbor/drill"
	"arbor/lower"
	"arbor/meaning"
	"arbor/syntax"
	"arbor/typing"
)

// The book: the chapter's tables as texts, and what it says of sizes, folded forms and slack.

// bookExprs: the plain code of an expression, by its operation.
var bookExprs = map[int]string{
	api.EInt:   "push N",
	api.EBytes: "bytes S",
	api.EField: "load k",
	api.EHas:   "has k",
	api.EHere:  "here",
	api.ENot:   "E(a), not",
	api.ENeg:   "E(a), neg",
	api.ELen:   "E(a), len",
	api.EAdd:   "E(a), E(b), add",
	api.ESub:   "E(a), E(b), sub",
	api.EMul:   "E(a), E(b), mul",
	api.EMin:   "E(a), E(b), min",
	api.EMax:   "E(a), E(b), max",
	api.ECat:   "E(a), E(b), cat",
	api.ELt:    "E(a), E(b), lt",
	api.ELe:    "E(a), E(b), le",
	api.EEq:    "E(a), E(b), eq",
	api.EGt:    "E(a), E(b), le, not",
	api.EGe:    "E(a), E(b), lt, not",
	api.ENe:    "E(a), E(b), eq, not",
	api.EAnd:   "E(a), unless |E(b)|+1, E(b), jump 1, false",
	api.EOr:    "E(a), unless 2, true, jump |E(b)|, E(b)",
	api.EElse:  "has k, unless 2, load k, jump |E(b)|, E(b)",
	api.EPick:  "E(c), unless |E(a)|+1, E(a), jump |E(b)|, E(b)",
}

// blanks: what stands in the places of a row's letters: codes, numbers, a text.
type blanks struct {
	codes   map[string][]api.Ins
	numbers map[string]int64
	text    string
}

// fill: the instructions that a row of the tables tells.
func (b blanks) fill(row string) []api.Ins {
	var is []api.Ins
	for piece := range strings.SplitSeq(row, ", ") {
		if part, there := b.codes[piece]; there {
			is = append(is, part...)
			continue
		}
		word, operand, _ := strings.Cut(piece, " ")
		ins := drill.CodeOf(word)[0]
		if operand == "S" {
			ins.S = b.text
		} else if operand != "" {
			ins.N = b.sum(operand)
		}
		is = append(is, ins)
	}
	return is
}

// sum: numbers, letters of numbers, numbers of a code's instructions, with + between each two.
func (b blanks) sum(operand string) int64 {
	var all int64
	for piece := range strings.SplitSeq(operand, "+") {
		n, err := strconv.ParseInt(piece, 10, 64)
		if number, there := b.numbers[piece]; there {
			n, err = number, nil
		}
		if part, there := b.codes[strings.Trim(piece, "|")]; there {
			n, err = int64(len(part)), nil
		}
		if err != nil {
			panic("the book has no " + piece)
		}
		all += n
	}
	return all
}

func bookNumber(s api.Schema, name string) int64 {
	return int64(slices.IndexFunc(s.Fields, func(f api.Field) bool { return f.Name == name }))
}

func bookExpr(s api.Schema, e api.Expr) []api.Ins {
	row := bookExprs[e.Op]
	if e.Op == api.EBool {
		row = []string{"false", "true"}[e.N]
	}
	letters := "E(a) E(b)"
	if e.Op == api.EPick {
		letters = "E(c) E(a) E(b)"
	}
	b := blanks{map[string][]api.Ins{}, map[string]int64{"N": e.N, "k": bookNumber(s, e.S)}, e.S}
	if e.Op == api.EElse {
		b.numbers["k"] = bookNumber(s, e.Kids[0].S)
	}
	for i, kid := range e.Kids {
		b.codes[strings.Fields(letters)[i]] = bookExpr(s, kid)
	}
	return b.fill(row)
}

func bookStmt(s api.Schema, st api.Stmt) []api.Ins {
	b := blanks{map[string][]api.Ins{"T": bookPlain(s, st.Then), "F": bookPlain(s, st.Else)}, map[string]int64{"k": bookNumber(s, st.Field)}, ""}
	optional := st.Field != "" && s.Fields[b.numbers["k"]].Optional
	for _, e := range st.Exprs {
		b.codes["E"] = bookExpr(s, e)
	}
	switch {
	case st.Op == api.SSet && isOptionalField(s, st.Exprs[0]):
		b.numbers["j"] = bookNumber(s, st.Exprs[0].S)
		return b.fill("has j, unless 3, load j, store k, jump 1, clear k")
	case st.Op == api.SSet:
		return b.fill("E, store k")
	case st.Op == api.SAdd:
		return b.fill("E, addto k")
	case st.Op == api.SMin && optional:
		return b.fill("has k, unless 2, load k, jump 1, push 9223372036854775807, E, min, store k")
	case st.Op == api.SMax && optional:
		return b.fill("has k, unless 2, load k, jump 1, push -9223372036854775808, E, max, store k")
	case st.Op == api.SMin:
		return b.fill("load k, E, min, store k")
	case st.Op == api.SMax:
		return b.fill("load k, E, max, store k")
	case st.Op == api.SIf && len(st.Else) == 0:
		return b.fill("E, unless |T|, T")
	case st.Op == api.SIf:
		return b.fill("E, unless |T|+1, T, jump |F|, F")
	}
	return b.fill(map[int]string{api.SClear: "clear k", api.SNew: "new", api.SDelete: "delete"}[st.Op])
}

func isOptionalField(s api.Schema, e api.Expr) bool {
	return e.Op == api.EField && s.Fields[bookNumber(s, e.S)].Optional
}

func bookPlain(s api.Schema, p []api.Stmt) []api.Ins {
	var is []api.Ins
	for _, st := range p {
		is = append(is, bookStmt(s, st)...)
	}
	return is
}

func isLiteral(e api.Expr) bool {
	return slices.Contains([]int{api.EInt, api.EBool, api.EBytes}, e.Op)
}

// allLiterals: has an expression kids, and these are all literals?
func allLiterals(e api.Expr) bool {
	for _, kid := range e.Kids {
		if !isLiteral(kid) {
			return false
		}
	}
	return len(e.Kids) > 0
}

// isFolded: has no expression in it, itself among them, kids that are all literals?
func isFolded(e api.Expr) bool {
	return !slices.ContainsFunc(drill.ExprParts([]api.Expr{e}), func(part *api.Expr) bool { return allLiterals(*part) })
}

// bookFolded: the folded form of an expression.
func bookFolded(s api.Schema, e api.Expr) api.Expr {
	e = drill.CopiedExprs([]api.Expr{e})[0]
	parts := drill.ExprParts([]api.Expr{e})
	slices.Reverse(parts) // kids ahead of what they stand in
	root := parts[len(parts)-1]
	for _, part := range parts {
		if allLiterals(*part) {
			v, _ := meaning.Value(s, *part, api.Row{})
			*part = drill.Literal(v)
		}
	}
	return *root
}

func bookFoldedProgram(s api.Schema, p []api.Stmt) []api.Stmt {
	p = drill.Copied(p)
	_, stmts := drill.Parts(p)
	for _, st := range stmts {
		for i, e := range st.Exprs {
			st.Exprs[i] = bookFolded(s, e)
		}
	}
	return p
}

// What the tests ask.

func wantPlain(t *testing.T, s api.Schema, p []api.Stmt) []api.Ins {
	t.Helper()
	want := bookPlain(s, p)
	is, e := lower.Plain(s, p)
	if !slices.Equal(is, want) || e != api.OK {
		t.Fatalf("Plain(%s) = %s, %d, want %s", drill.Shown(p), drill.ShownCode(is), e, drill.ShownCode(want))
	}
	return is
}

// wantMeaning: the code makes of each row what the program means there.
func wantMeaning(t *testing.T, s api.Schema, p []api.Stmt, is []api.Ins, rows []api.Row) {
	t.Helper()
	for _, row := range rows {
		want, e := meaning.Run(s, p, row)
		if got := drill.Play(s, is, row); !drill.SameRow(got, want) || e != api.OK {
			t.Fatalf("%s, as %s, makes of %s: %s, want %s, %d", drill.Shown(p), drill.ShownCode(is), drill.ShownRow(s, row), drill.ShownRow(s, got), drill.ShownRow(s, want), e)
		}
	}
}

// wantLower: all that P12.4 says of a program that fits, and that Compile answers the same where the program's text is a source.
func wantLower(t *testing.T, s api.Schema, p []api.Stmt, rows []api.Row) []api.Ins {
	t.Helper()
	plain, small := bookPlain(s, p), bookPlain(s, bookFoldedProgram(s, p))
	is, e := lower.Lower(s, p)
	wantCompiled(t, s, p, is, e)
	if drill.CodeSize(plain) > api.MaxCode {
		if len(is) != 0 || e != api.ErrBig {
			t.Fatalf("Lower(%s) = %s, %d, its plain code has %d bytes", drill.Shown(p), drill.ShownCode(is), e, drill.CodeSize(plain))
		}
		return nil
	}
	if slack := drill.Slack(s, is); slack != "" || e != api.OK {
		t.Fatalf("Lower(%s) = %s, %d: %s", drill.Shown(p), drill.ShownCode(is), e, slack)
	}
	if size := drill.CodeSize(is); size > drill.CodeSize(plain) || size > drill.CodeSize(small) {
		t.Fatalf("Lower(%s) = %s: %d bytes, the plain code has %d, folded %d", drill.Shown(p), drill.ShownCode(is), size, drill.CodeSize(plain), drill.CodeSize(small))
	}
	wantMeaning(t, s, p, is, rows)
	if again, e := lower.Lower(s, p); !slices.Equal(again, is) || e != api.OK {
		t.Fatalf("Lower(%s) is %s, and then %s, %d", drill.Shown(p), drill.ShownCode(is), drill.ShownCode(again), e)
	}
	return is
}

// wantCompiled: Compile of the program's text answers the bytes of what Lower answered, or its error.
func wantCompiled(t *testing.T, s api.Schema, p []api.Stmt, is []api.Ins, errno api.Errno) {
	t.Helper()
	src, _ := syntax.Print(p)
	if len(src) > api.MaxSource {
		return
	}
	b, e, at := lower.Compile(s, src)
	back, wrong := code.Decode(b)
	if !slices.Equal(back, is) || wrong != api.OK || e != errno || at != 0 {
		t.Fatalf("Compile(%s) = % x, %d, %d: Lower says %s, %d", src, b, e, at, drill.ShownCode(is), errno)
	}
}

// wantPeephole: all that P12.3 says of a code that may be run.
func wantPeephole(t *testing.T, s api.Schema, is []api.Ins, rows []api.Row) []api.Ins {
	t.Helper()
	deep, _, wrong := code.Verify(s, is...)
	got, e := lower.Peephole(s, is...)
	if e != api.OK || wrong != api.OK {
		t.Fatalf("Peephole(%s) = %s, %d", drill.ShownCode(is), drill.ShownCode(got), e)
	}
	if slack := drill.Slack(s, got); slack != "" {
		t.Fatalf("Peephole(%s) = %s: %s", drill.ShownCode(is), drill.ShownCode(got), slack)
	}
	if d, _, _ := code.Verify(s, got...); d > deep || len(got) > len(is) || drill.CodeSize(got) > drill.CodeSize(is) {
		t.Fatalf("Peephole(%s) = %s: %d deep, %d bytes, it was %d deep, %d bytes", drill.ShownCode(is), drill.ShownCode(got), d, drill.CodeSize(got), deep, drill.CodeSize(is))
	}
	for _, row := range rows {
		if now, was := drill.Play(s, got, row), drill.Play(s, is, row); !drill.SameRow(now, was) {
			t.Fatalf("Peephole(%s) = %s, which makes of %s: %s, it was %s", drill.ShownCode(is), drill.ShownCode(got), drill.ShownRow(s, row), drill.ShownRow(s, now), drill.ShownRow(s, was))
		}
	}
	return got
}

func depthOf(e api.Expr) int {
	deep := 0
	for _, kid := range e.Kids {
		deep = max(deep, depthOf(kid))
	}
	return deep + 1
}

// wantFold: all that P12.2 says of an expression that fits.
func wantFold(t *testing.T, s api.Schema, e api.Expr, rows []api.Row) api.Expr {
	t.Helper()
	got, errno := lower.Fold(s, e)
	if errno != api.OK || syntax.CheckExpr(got) != api.OK {
		t.Fatalf("Fold(%s) = %+v, %d", drill.ShownExpr(e), got, errno)
	}
	of, optional, wrong := typing.Type(s, e)
	if o, opt, w := typing.Type(s, got); o != of || opt != optional || w != wrong || wrong != api.OK {
		t.Fatalf("Fold(%s) = %s: of type %d, %v, want %d, %v", drill.ShownExpr(e), drill.ShownExpr(got), o, opt, of, optional)
	}
	all, was := drill.ExprParts([]api.Expr{got}), drill.ExprParts([]api.Expr{e})
	if !isFolded(got) || len(all) > len(was) || depthOf(got) > depthOf(e) {
		t.Fatalf("Fold(%s) = %s: folded: %v; %d expressions, %d deep", drill.ShownExpr(e), drill.ShownExpr(got), isFolded(got), len(all), depthOf(got))
	}
	asks := slices.ContainsFunc(was, func(part *api.Expr) bool { return len(part.Kids) == 0 && !isLiteral(*part) })
	if !asks && !isLiteral(got) {
		t.Fatalf("Fold(%s) = %s, no literal", drill.ShownExpr(e), drill.ShownExpr(got))
	}
	for _, row := range rows {
		want, _ := meaning.Value(s, e, row)
		if v, errno := meaning.Value(s, got, row); v != want || errno != api.OK {
			t.Fatalf("Fold(%s) = %s: on %s %+v, want %+v", drill.ShownExpr(e), drill.ShownExpr(got), drill.ShownRow(s, row), v, want)
		}
	}
	return got
}
