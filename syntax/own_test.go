package syntax_test

import (
	"testing"

	"arbor/api"
	"arbor/drill"
	"arbor/syntax"
)

// P8.5: a tree that is handed in is not changed, nor is the spare room of its lists.
func TestTreesAreNotChanged(t *testing.T) {
	numbers := drill.Numbers(85)
	for i := range 500 {
		p := anyProgram(&numbers, 5)
		if exprs, stmts := drill.Parts(p); i%2 == 0 && len(exprs) > 0 {
			spoilExpr(&numbers, exprs[numbers.Below(len(exprs))])
			spoilStmt(&numbers, stmts[numbers.Below(len(stmts))])
		}
		given := drill.Copied(p)
		syntax.Check(given)
		syntax.Print(given)
		for _, s := range given {
			for _, e := range s.Exprs {
				syntax.CheckExpr(e)
				syntax.PrintExpr(e)
			}
		}
		if !drill.Same(given, p) || !drill.Untouched(given) {
			t.Fatalf("a tree was changed: %+v, it was %+v", given, p)
		}
	}
}

// fill: every list of a tree is written over to its capacity.
func fill(p []api.Stmt) {
	for _, s := range p {
		fillExprs(s.Exprs)
		fill(s.Then)
		fill(s.Else)
	}
	for i := range p[:cap(p)] {
		p[:cap(p)][i] = api.Stmt{Op: -1}
	}
}

func fillExprs(list []api.Expr) {
	for _, e := range list {
		fillExprs(e.Kids)
	}
	for i := range list[:cap(list)] {
		list[:cap(list)][i] = api.Expr{Op: -1}
	}
}

// addresses: each place of each list, spare room too, and how often it is met.
func addresses(p []api.Stmt, seen map[any]int) {
	for i := range p[:cap(p)] {
		seen[&p[:cap(p)][i]]++
	}
	for _, s := range p {
		exprAddresses(s.Exprs, seen)
		addresses(s.Then, seen)
		addresses(s.Else, seen)
	}
}

func exprAddresses(list []api.Expr, seen map[any]int) {
	for i := range list[:cap(list)] {
		seen[&list[:cap(list)][i]]++
	}
	for _, e := range list {
		exprAddresses(e.Kids, seen)
	}
}

// P8.5: no two lists of an answer share memory, nor do those of two answers.
func TestAnswersShareNothing(t *testing.T) {
	numbers := drill.Numbers(58)
	for range 500 {
		p := anyProgram(&numbers, 4)
		src := bookPrint(p)
		one, e, _ := syntax.Parse(src)
		other, errno, _ := syntax.Parse(src)
		if e != api.OK || errno != api.OK {
			continue
		}
		seen := map[any]int{}
		addresses(one, seen)
		addresses(other, seen)
		for address, times := range seen {
			if times > 1 {
				t.Fatalf("Parse(%q): %v is in %d lists", src, address, times)
			}
		}
		fill(one)
		if again, e, _ := syntax.Parse(src); !drill.Same(other, p) || !drill.Same(again, p) || e != api.OK {
			t.Fatalf("Parse(%q): what was done to one answer is seen in another", src)
		}
		for _, s := range p {
			for _, x := range s.Exprs {
				mine, e, _ := syntax.ParseExpr(bookText(x))
				fillExprs(mine.Kids)
				if again, errno, _ := syntax.ParseExpr(bookText(x)); e != errno || e == api.OK && !drill.SameExpr(again, x) {
					t.Fatalf("ParseExpr(%q): what was done to one answer is seen in another", bookText(x))
				}
			}
		}
	}
}

// R2, R6: what was asked before, and refused, does not matter.
func TestCallsKnowNothingOfOneAnother(t *testing.T) {
	for range 3 {
		for _, src := range []string{"n = 1", "n = ((", "new; new", ";", "n = 1"} {
			wantParse(t, src)
			wantParseExpr(t, src)
		}
	}
}
