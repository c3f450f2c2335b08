package query_test

import (
	"slices"
	"testing"

	"arbor/api"
	"arbor/drill"
	"arbor/query"
)

// What follows, told of the program's answers alone.

// lawful: asks of entries what is to have an answer.
type lawful struct {
	t *testing.T
	s api.Schema
}

func (a lawful) of(l []api.Entry, q api.Query) api.Answer {
	a.t.Helper()
	answer, e := query.Over(a.s, l, q)
	if e != api.OK {
		a.t.Fatalf("Over(%s) = %d", shown(q), e)
	}
	return answer
}

func (a lawful) value(l []api.Entry, kind int, where, of []api.Expr) api.Value {
	a.t.Helper()
	return a.of(l, api.Query{Kind: kind, Where: where, Of: of}).Value
}

// each: some lists and expressions for each of the schemas.
func each(t *testing.T, seed drill.Numbers, ask func(a lawful, f drill.Fitting, l []api.Entry)) {
	for _, s := range drill.Schemas() {
		f := drill.Fitting{Schema: s, Numbers: &seed}
		for range 500 {
			ask(lawful{t, s}, f, anyEntries(f, 8))
		}
	}
}

func one(x api.Expr) []api.Expr { return []api.Expr{x} }

func not(x api.Expr) []api.Expr { return one(drill.Tree(api.ENot, x)) }

// The count of a condition and that of its contrary add up to the count of all; any of e is not all of not e.
func TestContraries(t *testing.T) {
	each(t, 221, func(a lawful, f drill.Fitting, l []api.Entry) {
		where, of := f.Expr(api.Bool, 3), f.Expr(api.Bool, 3)
		holds, fails := a.value(l, api.QCount, one(where), nil), a.value(l, api.QCount, not(where), nil)
		if all := a.value(l, api.QCount, nil, nil); all != intOf(int64(len(l))) || holds.N+fails.N != all.N {
			t.Fatalf("%s: %d and %d of %d", drill.ShownExpr(where), holds.N, fails.N, all.N)
		}
		if a.value(l, api.QAny, one(where), one(of)) == a.value(l, api.QAll, one(where), not(of)) {
			t.Fatalf("any of %s is all of its contrary", drill.ShownExpr(of))
		}
	})
}

// What is told of two lists, one behind the other, comes from what is told of each.
func TestTwoLists(t *testing.T) {
	each(t, 222, func(a lawful, f drill.Fitting, l []api.Entry) {
		other := anyEntries(f, 8)
		both := slices.Concat(l, other)
		where, is, n := one(f.Expr(api.Bool, 2)), one(f.Expr(api.Bool, 2)), one(f.Expr(api.Int, 3))
		told := func(kind int, of []api.Expr) (x, y, whole api.Value) {
			return a.value(l, kind, where, of), a.value(other, kind, where, of), a.value(both, kind, where, of)
		}
		if x, y, whole := told(api.QCount, nil); whole.N != x.N+y.N {
			t.Fatalf("count: %v, %v, %v", x, y, whole)
		}
		if x, y, whole := told(api.QSum, n); whole.N != x.N+y.N {
			t.Fatalf("sum: %v, %v, %v", x, y, whole)
		}
		if x, y, whole := told(api.QAny, is); whole.N != x.N|y.N {
			t.Fatalf("any: %v, %v, %v", x, y, whole)
		}
		if x, y, whole := told(api.QAll, is); whole.N != x.N&y.N {
			t.Fatalf("all: %v, %v, %v", x, y, whole)
		}
		if x, y, whole := told(api.QMin, n); whole != bookFold(api.QMin, 0, present(x, y)) {
			t.Fatalf("min: %v, %v, %v", x, y, whole)
		}
		if x, y, whole := told(api.QMax, n); whole != bookFold(api.QMax, 0, present(x, y)) {
			t.Fatalf("max: %v, %v, %v", x, y, whole)
		}
	})
}

func present(values ...api.Value) []api.Value {
	return slices.DeleteFunc(values, func(v api.Value) bool { return v.Kind == api.None })
}

// Rows without a limit are the entries that count, each as often as in the list; a limit gives the first of them.
func TestRowsAreTheEntries(t *testing.T) {
	each(t, 223, func(a lawful, f drill.Fitting, l []api.Entry) {
		where := one(f.Expr(api.Bool, 3))
		by := api.Query{Kind: api.QRows, Where: where, By: one(f.Expr(1+f.Numbers.Below(3), 3)), Down: f.Numbers.Below(2) == 0, Limit: -1}
		plain := a.of(l, api.Query{Kind: api.QRows, Where: where, Limit: -1}).Rows
		all := a.of(l, by).Rows
		if count := a.value(l, api.QCount, where, nil); count.N != int64(len(all)) || len(plain) != len(all) {
			t.Fatalf("%s: %d rows, %d in the order of the list, %d are counted", shown(by), len(all), len(plain), count.N)
		}
		left := slices.Clone(plain)
		for _, row := range all {
			at := slices.IndexFunc(left, func(other api.Entry) bool { return drill.SameEntries([]api.Entry{row}, []api.Entry{other}) })
			if at < 0 {
				t.Fatalf("%s gives more than the list has of %q", shown(by), row.Key)
			}
			left = slices.Delete(left, at, at+1)
		}
		for limit := range len(all) + 2 {
			by.Limit = limit
			if rows := a.of(l, by).Rows; !drill.SameEntries(rows, all[:min(limit, len(all))]) {
				t.Fatalf("%s: %d rows, that do not begin the %d", shown(by), len(rows), len(all))
			}
		}
	})
}

// min e is the first value of e in rows sorted by e, max e the first with down.
func TestEndsAreTheFirst(t *testing.T) {
	each(t, 224, func(a lawful, f drill.Fitting, l []api.Entry) {
		where, of := one(f.Expr(api.Bool, 2)), one(f.Expr(drill.Pick(f.Numbers, []int{api.Int, api.Bytes}), 3))
		for _, down := range []bool{false, true} {
			kind := map[bool]int{false: api.QMin, true: api.QMax}[down]
			end := a.value(l, kind, where, of)
			rows := a.of(l, api.Query{Kind: api.QRows, Where: where, By: of, Down: down, Limit: 1}).Rows
			if len(rows) == 0 && end.Kind != api.None || len(rows) > 0 && end != bookValue(a.s, of[0], rows[0]) {
				t.Fatalf("%s of %s = %v, the rows begin with %s", bookVerbs[kind], drill.ShownExpr(of[0]), end, drill.ShownEntries(a.s, rows))
			}
		}
	})
}
