package syntax

import (
	"arbor/api"
	"arbor/words"
)

func wellMade(p []api.Stmt) bool {
	for _, s := range p {
		if !headFits(s) || !exprsWellMade(s.Exprs) || !wellMade(s.Then) || !wellMade(s.Else) {
			return false
		}
	}
	return true
}

// headFits: has a statement just the parts that its operation has, whatever is in them?
func headFits(s api.Stmt) bool {
	bare := len(s.Then) == 0 && len(s.Else) == 0
	switch s.Op {
	case api.SSet, api.SAdd, api.SMin, api.SMax:
		return words.Name(s.Field) && len(s.Exprs) == 1 && bare
	case api.SClear:
		return words.Name(s.Field) && len(s.Exprs) == 0 && bare
	case api.SNew, api.SDelete:
		return s.Field == "" && len(s.Exprs) == 0 && bare
	case api.SIf:
		return s.Field == "" && len(s.Exprs) == 1
	}
	return false
}

func exprsWellMade(list []api.Expr) bool {
	for _, e := range list {
		if !rootFits(e) || !exprsWellMade(e.Kids) {
			return false
		}
	}
	return true
}

// rootFits: has an expression just what its operation has, whatever its kids are?
func rootFits(e api.Expr) bool {
	if e.Op < api.EInt || e.Op > api.EPick || len(e.Kids) != forms[e.Op].kids {
		return false
	}
	switch e.Op {
	case api.EInt:
		return e.S == ""
	case api.EBool:
		return (e.N == 0 || e.N == 1) && e.S == ""
	case api.EBytes:
		return e.N == 0 && len(e.S) <= api.MaxBytes
	case api.EField, api.EHas:
		return e.N == 0 && words.Name(e.S)
	}
	return e.N == 0 && e.S == ""
}

// count: how many statements there are, at all depths.
func count(p []api.Stmt) int {
	n := len(p)
	for _, s := range p {
		n += count(s.Then) + count(s.Else)
	}
	return n
}

func depth(p []api.Stmt) int {
	deepest := 0
	for _, s := range p {
		deepest = max(deepest, 1+max(exprsDepth(s.Exprs), depth(s.Then), depth(s.Else)))
	}
	return deepest
}

func exprsDepth(list []api.Expr) int {
	deepest := 0
	for _, e := range list {
		deepest = max(deepest, 1+exprsDepth(e.Kids))
	}
	return deepest
}
