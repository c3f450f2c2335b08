package meaning_test

import (
	"maps"
	"math/big"
	"slices"
	"testing"

	"arbor/api"
	"arbor/drill"
	"arbor/meaning"
	"arbor/typing"
	"arbor/value"
)

// The book: the chapter's two tables, told row by row, over values that are not the program's: an int is a number of any size that is wrapped where the table says so, a bool a bool, bytes a list of them, and nil is absent.

// record: the values that are present, by name; nil: there is no record.
type record map[string]any

// wrapped: modulo 2^64, into -2^63 to 2^63 - 1.
func wrapped(n *big.Int) *big.Int {
	half := new(big.Int).Lsh(big.NewInt(1), 63)
	n.Add(n, half)
	n.Mod(n, new(big.Int).Lsh(half, 1))
	return n.Sub(n, half)
}

// bytewise: below 0, 0, above 0, as a is less than b, the same, greater.
func bytewise(a, b []byte) int {
	for i := range a {
		switch {
		case i == len(b):
			return 1
		case a[i] != b[i]:
			return int(a[i]) - int(b[i])
		}
	}
	return len(a) - len(b)
}

// bySize: likewise of any two values of one type; of bools only whether they are the same.
func bySize(a, b any) int {
	switch x := a.(type) {
	case *big.Int:
		return x.Cmp(b.(*big.Int))
	case []byte:
		return bytewise(x, b.([]byte))
	}
	if a.(bool) == b.(bool) {
		return 0
	}
	return 1
}

// zeroOf: what a field of the zero record is worth.
func zeroOf(f api.Field) any {
	if f.Optional {
		return nil
	}
	return []any{api.Int: new(big.Int), api.Bool: false, api.Bytes: []byte{}}[f.Type]
}

func bookField(s api.Schema, name string, r record) any {
	if r != nil {
		return r[name]
	}
	place := slices.IndexFunc(s.Fields, func(f api.Field) bool { return f.Name == name })
	return zeroOf(s.Fields[place])
}

// bookExpr: what an expression is worth on a row.
func bookExpr(s api.Schema, e api.Expr, r record) any {
	var kids []any
	for _, kid := range e.Kids {
		kids = append(kids, bookExpr(s, kid, r))
	}
	switch e.Op {
	case api.EInt:
		return big.NewInt(e.N)
	case api.EBool:
		return e.N != 0
	case api.EBytes:
		return []byte(e.S)
	case api.EField:
		return bookField(s, e.S, r)
	case api.EHas:
		return r != nil && r[e.S] != nil
	case api.EHere:
		return r != nil
	case api.ENot:
		return !kids[0].(bool)
	case api.EAnd:
		return kids[0].(bool) && kids[1].(bool)
	case api.EOr:
		return kids[0].(bool) || kids[1].(bool)
	case api.EElse:
		if kids[0] == nil {
			return kids[1]
		}
		return kids[0]
	case api.EPick:
		if kids[0].(bool) {
			return kids[1]
		}
		return kids[2]
	case api.ELen:
		return big.NewInt(int64(len(kids[0].([]byte))))
	case api.ECat:
		var whole []byte
		for _, b := range slices.Concat(kids[0].([]byte), kids[1].([]byte)) {
			if len(whole) < 20 {
				whole = append(whole, b)
			}
		}
		return whole
	case api.ELt, api.ELe, api.EGt, api.EGe, api.EEq, api.ENe:
		return bookCompared(e.Op, bySize(kids[0], kids[1]))
	case api.ENeg:
		return bookInts(api.ESub, new(big.Int), kids[0].(*big.Int))
	}
	return bookInts(e.Op, kids[0].(*big.Int), kids[1].(*big.Int))
}

func bookCompared(op, order int) bool {
	return map[int]bool{api.ELt: order < 0, api.ELe: order <= 0, api.EGt: order > 0, api.EGe: order >= 0, api.EEq: order == 0, api.ENe: order != 0}[op]
}

func bookInts(op int, a, b *big.Int) any {
	smaller, greater := a, b
	if a.Cmp(b) > 0 {
		smaller, greater = b, a
	}
	switch op {
	case api.EAdd:
		return wrapped(new(big.Int).Add(a, b))
	case api.ESub:
		return wrapped(new(big.Int).Sub(a, b))
	case api.EMul:
		return wrapped(new(big.Int).Mul(a, b))
	case api.EMin:
		return smaller
	case api.EMax:
		return greater
	}
	panic("the book does not know the operation")
}

// bookStmt: what a statement makes of a row, which stays as it is.
func bookStmt(s api.Schema, st api.Stmt, r record) record {
	switch {
	case st.Op == api.SDelete:
		return nil
	case st.Op == api.SNew && r == nil:
		r = record{}
		for _, f := range s.Fields {
			if v := zeroOf(f); v != nil {
				r[f.Name] = v
			}
		}
		return r
	case st.Op == api.SIf && bookExpr(s, st.Exprs[0], r).(bool):
		return bookRun(s, st.Then, r)
	case st.Op == api.SIf:
		return bookRun(s, st.Else, r)
	case st.Op == api.SNew || r == nil:
		return r
	}
	r = maps.Clone(r)
	is := r[st.Field]
	switch st.Op {
	case api.SClear:
		delete(r, st.Field)
		return r
	case api.SSet:
		is = bookExpr(s, st.Exprs[0], r)
	case api.SAdd:
		if is == nil {
			is = new(big.Int)
		}
		is = bookInts(api.EAdd, is.(*big.Int), bookExpr(s, st.Exprs[0], r).(*big.Int))
	case api.SMin, api.SMax:
		e := bookExpr(s, st.Exprs[0], r)
		if is == nil {
			is = e
		}
		op := map[int]int{api.SMin: api.EMin, api.SMax: api.EMax}[st.Op]
		is = bookInts(op, is.(*big.Int), e.(*big.Int))
	}
	delete(r, st.Field)
	if is != nil {
		r[st.Field] = is
	}
	return r
}

// bookRun: what statements make of a row, one behind the other.
func bookRun(s api.Schema, p []api.Stmt, r record) record {
	for _, st := range p {
		r = bookStmt(s, st, r)
	}
	return r
}

// Between the book's values and the program's.

func bookValue(v api.Value) any {
	return []any{nil, big.NewInt(v.N), v.N != 0, []byte(v.S)}[v.Kind]
}

func valueOf(v any) api.Value {
	switch x := v.(type) {
	case *big.Int:
		return number(x.Int64())
	case bool:
		return truth(x)
	case []byte:
		return text(string(x))
	}
	return api.Value{}
}

func number(n int64) api.Value { return api.Value{Kind: api.Int, N: n} }
func text(s string) api.Value  { return api.Value{Kind: api.Bytes, S: s} }

func truth(is bool) api.Value {
	return map[bool]api.Value{true: {Kind: api.Bool, N: 1}, false: {Kind: api.Bool}}[is]
}

func recordOf(s api.Schema, row api.Row) record {
	if !row.Here {
		return nil
	}
	r := record{}
	for i, f := range s.Fields {
		if v := bookValue(row.Vals[i]); v != nil {
			r[f.Name] = v
		}
	}
	return r
}

func rowOf(s api.Schema, r record) api.Row {
	if r == nil {
		return api.Row{}
	}
	row := api.Row{Here: true}
	for _, f := range s.Fields {
		row.Vals = append(row.Vals, valueOf(r[f.Name]))
	}
	return row
}

// What the tests ask.

func wantValue(t *testing.T, s api.Schema, e api.Expr, row api.Row, want api.Value, errno api.Errno) {
	t.Helper()
	if got, wrong := meaning.Value(s, e, row); got != want || wrong != errno {
		t.Fatalf("Value of %s on %s = %+v, %d, want %+v, %d", drill.ShownExpr(e), drill.ShownRow(s, row), got, wrong, want, errno)
	}
}

// wantBookValue: the value is the book's, and of the type that typing says (P10.4).
func wantBookValue(t *testing.T, s api.Schema, e api.Expr, row api.Row) {
	t.Helper()
	want := valueOf(bookExpr(s, e, recordOf(s, row)))
	wantValue(t, s, e, row, want, api.OK)
	of, optional, errno := typing.Type(s, e)
	if errno != api.OK || want.Kind != of && (want.Kind != api.None || !optional) {
		t.Fatalf("Value of %s on %s = %+v, but Type says %d, %v, %d", drill.ShownExpr(e), drill.ShownRow(s, row), want, of, optional, errno)
	}
}

func wantRun(t *testing.T, s api.Schema, p []api.Stmt, row, want api.Row, errno api.Errno) {
	t.Helper()
	if got, wrong := meaning.Run(s, p, row); !drill.SameRow(got, want) || wrong != errno {
		t.Fatalf("Run of %s on %s = %s, %d, want %s, %d", drill.Shown(p), drill.ShownRow(s, row), drill.ShownRow(s, got), wrong, drill.ShownRow(s, want), errno)
	}
}

// wantBookRun: the program makes of the row what the book says, and that is a row of the schema (P10.4).
func wantBookRun(t *testing.T, s api.Schema, p []api.Stmt, row api.Row) {
	t.Helper()
	want := rowOf(s, bookRun(s, p, recordOf(s, row)))
	wantRun(t, s, p, row, want, api.OK)
	if want.Here && value.Check(s, want.Vals) != api.OK {
		t.Fatalf("Run of %s on %s = %+v, no row of the schema", drill.Shown(p), drill.ShownRow(s, row), want)
	}
}

func wantChain(t *testing.T, s api.Schema, row api.Row, want api.Row, errno api.Errno, ps ...[]api.Stmt) {
	t.Helper()
	if got, wrong := meaning.Chain(s, row, ps...); !drill.SameRow(got, want) || wrong != errno {
		var texts []string
		for _, p := range ps[:min(len(ps), 5)] {
			texts = append(texts, drill.Shown(p))
		}
		t.Fatalf("Chain of %d programs %q on %s = %s, %d, want %s, %d", len(ps), texts, drill.ShownRow(s, row), drill.ShownRow(s, got), wrong, drill.ShownRow(s, want), errno)
	}
}
