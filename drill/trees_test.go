package drill_test

import (
	"testing"

	"arbor/api"
	"arbor/drill"
)

// sample: a program with lists of every kind.
func sample() []api.Stmt {
	sum := api.Expr{Op: api.EAdd, Kids: []api.Expr{{Op: api.EInt, N: 1}, {Op: api.EField, S: "n"}}}
	return []api.Stmt{
		{Op: api.SIf, Exprs: []api.Expr{{Op: api.EHere}}, Then: []api.Stmt{{Op: api.SSet, Field: "n", Exprs: []api.Expr{sum}}}, Else: []api.Stmt{{Op: api.SClear, Field: "t"}}},
		{Op: api.SNew},
	}
}

// Whatever part of a copy is changed, it is the same no more, and the first one is as it was.
func TestCopiesAreTheSameUntilChanged(t *testing.T) {
	first := drill.Copied(sample())
	exprs, stmts := drill.Parts(first)
	if len(exprs) != 4 || len(stmts) != 4 || !drill.Same(first, sample()) {
		t.Fatalf("%d expressions, %d statements", len(exprs), len(stmts))
	}
	for i := range exprs {
		for _, spoil := range []func(*api.Expr){
			func(e *api.Expr) { e.Op++ },
			func(e *api.Expr) { e.N++ },
			func(e *api.Expr) { e.S += "x" },
			func(e *api.Expr) { e.Kids = append(e.Kids, api.Expr{}) },
		} {
			copied := drill.Copied(first)
			all, _ := drill.Parts(copied)
			spoil(all[i])
			if drill.Same(copied, first) || !drill.Same(first, sample()) {
				t.Errorf("a change of expression %d is not told", i)
			}
		}
	}
	for i := range stmts {
		for _, spoil := range []func(*api.Stmt){
			func(s *api.Stmt) { s.Op++ },
			func(s *api.Stmt) { s.Field += "x" },
			func(s *api.Stmt) { s.Exprs = append(s.Exprs, api.Expr{}) },
			func(s *api.Stmt) { s.Then = append(s.Then, api.Stmt{}) },
			func(s *api.Stmt) { s.Else = append(s.Else, api.Stmt{}) },
		} {
			copied := drill.Copied(first)
			_, all := drill.Parts(copied)
			spoil(all[i])
			if drill.Same(copied, first) || !drill.Same(first, sample()) {
				t.Errorf("a change of statement %d is not told", i)
			}
		}
	}
}

// Whoever writes into the room behind any list of a copy is found out.
func TestSpareRoomIsMarked(t *testing.T) {
	exprs, stmts := drill.Parts(sample())
	for i := range exprs {
		copied := drill.Copied(sample())
		all, _ := drill.Parts(copied)
		_ = append(all[i].Kids, api.Expr{})
		if drill.Untouched(copied) || !drill.Same(copied, sample()) {
			t.Errorf("what was written behind the kids of expression %d is not told", i)
		}
	}
	for i := range stmts {
		for _, write := range []func(*api.Stmt){
			func(s *api.Stmt) { _ = append(s.Exprs, api.Expr{}) },
			func(s *api.Stmt) { _ = append(s.Then, api.Stmt{}) },
			func(s *api.Stmt) { _ = append(s.Else, api.Stmt{}) },
		} {
			copied := drill.Copied(sample())
			_, all := drill.Parts(copied)
			write(all[i])
			if drill.Untouched(copied) || !drill.Same(copied, sample()) {
				t.Errorf("what was written behind a list of statement %d is not told", i)
			}
		}
	}
	copied := drill.Copied(nil)
	if !drill.Untouched(copied) {
		t.Error("an empty copy is not as it was")
	}
	if _ = append(copied, api.Stmt{}); drill.Untouched(copied) {
		t.Error("what was written behind an empty copy is not told")
	}
}
