package syntax_test

import (
	"strings"
	"testing"

	"arbor/api"
	"arbor/drill"
	"arbor/syntax"
)

// anyExpr: an expression of at most that depth.
func anyExpr(numbers *drill.Numbers, deep int) api.Expr {
	op := 1 + numbers.Below(api.EPick)
	if deep <= 1 {
		op = 1 + numbers.Below(api.EHere)
	}
	switch op {
	case api.EInt:
		return number([]int64{0, 1, 5, -1, -5, 1<<63 - 1, -1 << 63, 1000}[numbers.Below(8)])
	case api.EBool:
		return boolean(int64(numbers.Below(2)))
	case api.EBytes:
		return bytes([]string{"", "a", "\"", "é", "\xff\x00", strings.Repeat("x", 20), strings.Repeat("\n", 20)}[numbers.Below(7)])
	case api.EField, api.EHas:
		return api.Expr{Op: op, S: []string{"a", "_", "n9", "abcdefgh", "If"}[numbers.Below(5)]}
	}
	e := api.Expr{Op: op}
	for range bookKids(op) {
		e.Kids = append(e.Kids, anyExpr(numbers, deep-1))
	}
	return e
}

// anyStmt: a statement of at most that depth, which is 2 or more.
func anyStmt(numbers *drill.Numbers, deep int) api.Stmt {
	op := 1 + numbers.Below(api.SIf)
	switch op {
	case api.SClear:
		return clears("tag")
	case api.SNew, api.SDelete:
		return api.Stmt{Op: op}
	case api.SIf:
		s := choice(anyExpr(numbers, deep-1), nil, nil)
		if deep > 2 {
			s.Then, s.Else = anyProgram(numbers, deep-1), anyProgram(numbers, deep-1)
		}
		return s
	}
	return change(op, "n", anyExpr(numbers, deep-1))
}

// anyProgram: up to three statements in each block.
func anyProgram(numbers *drill.Numbers, deep int) []api.Stmt {
	var p []api.Stmt
	for range numbers.Below(4) {
		p = append(p, anyStmt(numbers, deep))
	}
	return p
}

// P8.4: programs of all kinds, up to the greatest depth and beyond it.
func TestPrintOfAnyProgram(t *testing.T) {
	numbers := drill.Numbers(84)
	for i := range 6000 {
		wantPrint(t, anyProgram(&numbers, 2+i%4))
		wantPrintExpr(t, anyExpr(&numbers, 1+i%5))
		if i%100 == 0 {
			wantPrintExpr(t, anyExpr(&numbers, 13))
		}
	}
}

// P8.4: every operation in every place of every operation, and in turn in every place of that.
func TestPrintOfEveryNesting(t *testing.T) {
	var trees []api.Expr
	leaves := []api.Expr{field("a"), number(5), number(-5)}
	trees = append(trees, leaves...)
	for op := api.ENot; op <= api.EPick; op++ {
		drill.Scripts(leaves, bookKids(op), func(kids []api.Expr) {
			trees = append(trees, tree(op, append([]api.Expr{}, kids...)...))
		})
	}
	for op := api.ENot; op <= api.EPick; op++ {
		for _, e := range trees {
			for place := range bookKids(op) {
				root := tree(op)
				for i := range bookKids(op) {
					root.Kids = append(root.Kids, leaves[i])
				}
				root.Kids[place] = e
				wantPrintExpr(t, root)
				for _, outer := range []int{api.ENot, api.ENeg, api.ELen} {
					wantPrintExpr(t, tree(outer, root))
				}
				for outer := api.EAdd; outer <= api.EMin; outer++ {
					wantPrintExpr(t, tree(outer, root, field("b")))
					wantPrintExpr(t, tree(outer, number(7), root))
				}
			}
		}
	}
}

// P8.4: where an expression stands alone, none stands in parentheses.
func TestNoParenthesesAlone(t *testing.T) {
	weak := tree(api.EOr, field("a"), field("b"))
	for _, x := range []struct {
		tree api.Stmt
		want string
	}{
		{set("n", weak), "n = a or b"},
		{change(api.SAdd, "n", weak), "n += a or b"},
		{change(api.SMin, "n", weak), "n min= a or b"},
		{change(api.SMax, "n", weak), "n max= a or b"},
		{choice(weak, nil, nil), "if a or b { }"},
		{set("n", tree(api.EMin, weak, weak)), "n = min(a or b, a or b)"},
		{set("n", tree(api.EMax, weak, weak)), "n = max(a or b, a or b)"},
		{set("n", tree(api.ECat, weak, weak)), "n = cat(a or b, a or b)"},
		{set("n", tree(api.ELen, weak)), "n = len(a or b)"},
		{set("n", tree(api.EPick, weak, weak, weak)), "n = pick(a or b, a or b, a or b)"},
	} {
		if got, e := syntax.Print(list(x.tree)); got != x.want || e != api.OK {
			t.Errorf("Print = %q, %d, want %q", got, e, x.want)
		}
	}
}

// P8.4: programs one behind the other are their texts joined, and a block is the text of its statements.
func TestPrintIsMadeOfItsParts(t *testing.T) {
	numbers := drill.Numbers(48)
	for range 500 {
		p, q := anyProgram(&numbers, 4), anyProgram(&numbers, 4)
		one, e := syntax.Print(p)
		other, errno := syntax.Print(q)
		both := append(append([]api.Stmt{}, p...), q...)
		if e != api.OK || errno != api.OK || len(p) == 0 || len(q) == 0 || syntax.Check(both) != api.OK {
			continue
		}
		if got, e := syntax.Print(both); got != one+"; "+other || e != api.OK {
			t.Fatalf("Print = %q, %d, want %q and %q", got, e, one, other)
		}
		block := list(choice(here(), p, q))
		if got, e := syntax.Print(block); syntax.Check(block) == api.OK && (got != "if here { "+one+" } else { "+other+" }" || e != api.OK) {
			t.Fatalf("Print = %q, %d, want %q and %q in blocks", got, e, one, other)
		}
	}
}

// P8.4: a text may be longer than a source may be.
func TestPrintOfLongPrograms(t *testing.T) {
	wide := bytes(strings.Repeat("\xff", 20))
	for range 8 {
		wide = tree(api.EPick, wide, wide, wide)
	}
	wantPrintExpr(t, wide)
	long := []api.Stmt{}
	for range 32 {
		long = append(long, set("abcdefgh", tree(api.ENeg, wide)))
	}
	if got, e := syntax.Print(long); got != bookPrint(long) || e != api.OK {
		t.Errorf("Print of a program of %d bytes = %d, with %d bytes", len(bookPrint(long)), e, len(got))
	}
	// Just as long as a source may be, and longer: the text is the same, but parsed back no more.
	for size := range 21 {
		p := append(times(7, set("abcdefgh", bytes(strings.Repeat("x", 20)))), set("n", bytes(strings.Repeat("y", size))))
		wantPrint(t, p)
		if text, _ := syntax.Print(p); len(text) != 251+size {
			t.Errorf("a text of %d bytes, want %d", len(text), 251+size)
		}
		if _, e, _ := syntax.Parse(bookPrint(p)); (e == api.OK) != (size <= 5) {
			t.Errorf("Parse of a text of %d bytes = %d", 251+size, e)
		}
	}
}
