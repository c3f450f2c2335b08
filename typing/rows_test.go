package typing_test

import (
	"strings"
	"testing"

	"arbor/api"
	"arbor/drill"
	"arbor/typing"
)

// P9.4 knows nothing of types: an expression is gone through with the values of a row, and goes wrong or does not.

// worth: the value of an expression on a record, and whether nothing went wrong.
func worth(s api.Schema, record []api.Value, e api.Expr) (api.Value, bool) {
	var kids []api.Value
	for _, kid := range e.Kids {
		v, right := worth(s, record, kid)
		if !right {
			return api.Value{}, false
		}
		kids = append(kids, v)
	}
	switch e.Op {
	case api.EInt:
		return api.Value{Kind: api.Int, N: e.N}, true
	case api.EBool:
		return api.Value{Kind: api.Bool, N: e.N}, true
	case api.EBytes:
		return api.Value{Kind: api.Bytes, S: e.S}, true
	case api.EHere:
		return truth(true), true
	case api.EField, api.EHas:
		place := placeOf(s, e.S)
		switch {
		case place < 0:
			return api.Value{}, false
		case e.Op == api.EField:
			return record[place], true
		}
		return truth(record[place].Kind != api.None), s.Fields[place].Optional
	case api.EElse:
		return worthElse(s, e.Kids[0], kids)
	}
	for _, v := range kids {
		if v.Kind == api.None {
			return api.Value{}, false
		}
	}
	return worked(e.Op, kids)
}

func placeOf(s api.Schema, name string) int {
	for place, f := range s.Fields {
		if f.Name == name {
			return place
		}
	}
	return -1
}

func truth(is bool) api.Value {
	if is {
		return api.Value{Kind: api.Bool, N: 1}
	}
	return api.Value{Kind: api.Bool}
}

func worthElse(s api.Schema, first api.Expr, kids []api.Value) (api.Value, bool) {
	if first.Op != api.EField || !s.Fields[placeOf(s, first.S)].Optional || kids[1].Kind == api.None {
		return api.Value{}, false
	}
	if kids[0].Kind == api.None {
		return kids[1], true
	}
	return kids[0], kids[0].Kind == kids[1].Kind
}

// worked: what an operation makes of values that are all there.
func worked(op int, kids []api.Value) (api.Value, bool) {
	kinds := ""
	for _, v := range kids {
		kinds += " ibs"[v.Kind : v.Kind+1]
	}
	a, b := kids[0], kids[len(kids)-1]
	order := strings.Compare(a.S, b.S)
	if a.N != b.N && kinds == "ii" {
		order = map[bool]int{true: -1, false: 1}[a.N < b.N]
	}
	ordered := kinds == "ii" || kinds == "ss"
	alike := ordered || kinds == "bb"
	switch op {
	case api.ENot:
		return truth(a.N == 0), kinds == "b"
	case api.ENeg:
		return api.Value{Kind: api.Int, N: -a.N}, kinds == "i"
	case api.ELen:
		return api.Value{Kind: api.Int, N: int64(len(a.S))}, kinds == "s"
	case api.EAdd:
		return api.Value{Kind: api.Int, N: a.N + b.N}, kinds == "ii"
	case api.ESub:
		return api.Value{Kind: api.Int, N: a.N - b.N}, kinds == "ii"
	case api.EMul:
		return api.Value{Kind: api.Int, N: a.N * b.N}, kinds == "ii"
	case api.EMin:
		return api.Value{Kind: api.Int, N: min(a.N, b.N)}, kinds == "ii"
	case api.EMax:
		return api.Value{Kind: api.Int, N: max(a.N, b.N)}, kinds == "ii"
	case api.ECat:
		whole := a.S + b.S
		return api.Value{Kind: api.Bytes, S: whole[:min(len(whole), api.MaxBytes)]}, kinds == "ss"
	case api.EAnd:
		return truth(a.N == 1 && b.N == 1), kinds == "bb"
	case api.EOr:
		return truth(a.N == 1 || b.N == 1), kinds == "bb"
	case api.ELt:
		return truth(order < 0), ordered
	case api.ELe:
		return truth(order <= 0), ordered
	case api.EGt:
		return truth(order > 0), ordered
	case api.EGe:
		return truth(order >= 0), ordered
	case api.EEq:
		return truth(a == b), alike
	case api.ENe:
		return truth(a != b), alike
	case api.EPick:
		if right := kinds == "bii" || kinds == "bbb" || kinds == "bss"; a.N == 0 || !right {
			return b, right
		}
		return kids[1], true
	}
	panic("no such operation")
}

// wantRows: Type says what P9.4 says of going through an expression.
func wantRows(t *testing.T, s api.Schema, records [][]api.Value, e api.Expr) {
	t.Helper()
	full, right := worth(s, records[0], e)
	bare, alsoRight := worth(s, records[len(records)-1], e)
	of, optional, errno := typing.Type(s, e)
	if (errno == api.OK) != (right && alsoRight) {
		t.Fatalf("Type of %s = %d, but going through it is right: %v with all fields, %v with none", drill.ShownExpr(e), errno, right, alsoRight)
	}
	if errno != api.OK {
		return
	}
	if of != full.Kind || optional != (bare.Kind == api.None) {
		t.Fatalf("Type of %s = %d, %v, but it is worth %+v with all fields, %+v with none", drill.ShownExpr(e), of, optional, full, bare)
	}
	for _, record := range records {
		if v, right := worth(s, record, e); !right || v.Kind != of && (v.Kind != api.None || !optional) {
			t.Fatalf("Type of %s = %d, %v, but it is worth %+v, %v on %+v", drill.ShownExpr(e), of, optional, v, right, record)
		}
	}
}

// P9.4: every short expression, and every operation over every kind of kid.
func TestNothingGoesWrongInWhatFits(t *testing.T) {
	for _, s := range drill.Schemas() {
		records := drill.Records(s)
		for _, leaf := range leavesOf(s) {
			wantRows(t, s, records, leaf)
		}
		over(leavesOf(s), func(e api.Expr) { wantRows(t, s, records, e) })
		over(kindsOf(s), func(e api.Expr) { wantRows(t, s, records, e) })
	}
}

// P9.4: deep expressions, and those that are one part away from them.
func TestNothingGoesWrongDeepInside(t *testing.T) {
	numbers := drill.Numbers(94)
	for _, s := range drill.Schemas() {
		fitting := drill.Fitting{Schema: s, Numbers: &numbers}
		records := drill.Records(s)
		for i := range 1000 {
			list := []api.Expr{fitting.Expr(1+i%3, 2+i%6)}
			wantRows(t, s, records, list[0])
			fitting.Spoil(drill.Pick(&numbers, drill.ExprParts(list)))
			wantRows(t, s, records, list[0])
		}
	}
}
