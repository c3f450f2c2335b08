package drill

import (
	"slices"

	"arbor/api"
)

// WrongSchemas: what value.CheckSchema refuses.
func WrongSchemas() []api.Schema {
	of := func(fields ...api.Field) api.Schema { return api.Schema{Fields: fields} }
	n := api.Field{Name: "n", Type: api.Int}
	return []api.Schema{
		{},
		{Fields: []api.Field{}},
		of(n, n),
		of(n, api.Field{Name: "n", Type: api.Bool, Optional: true}),
		of(n, api.Field{Name: "", Type: api.Int}),
		of(n, api.Field{Name: "if", Type: api.Int}),
		of(n, api.Field{Name: "9", Type: api.Int}),
		of(n, api.Field{Name: "abcdefghi", Type: api.Int}),
		of(n, api.Field{Name: "a"}),
		of(n, api.Field{Name: "a", Type: 4}),
		of(n, api.Field{Name: "a", Type: -1}),
		of(n, api.Field{Name: "a", Type: api.Bytes}, api.Field{Name: "b", Type: api.Bytes}, api.Field{Name: "c", Type: api.Bytes}),
		of(slices.Repeat([]api.Field{n}, 1<<17)...),
	}
}

// Wrong: what a layer refuses, and its error.
type Wrong[Part any] struct {
	Part  Part
	Errno api.Errno
}

// WrongExprs: what syntax.CheckExpr refuses. Some of them name a field x.
func WrongExprs() []Wrong[api.Expr] {
	one := Number(1)
	var list []Wrong[api.Expr]
	for _, e := range []api.Expr{
		{}, {Op: -1}, {Op: 26}, {Op: 1 << 40}, {Op: -1 << 63},
		{Op: api.EInt, S: "a"}, {Op: api.EBool, N: 2}, {Op: api.EBytes, S: "abcdefghijklmnopqrstu"}, {Op: api.EHere, N: 1},
		Field(""), Field("if"), Field("abcdefghi"), Field("9"), {Op: api.EHas, S: "n!"}, {Op: api.EField, S: "n", N: 1},
		Tree(api.ENot), Tree(api.EAdd, one), Tree(api.EAdd, one, one, one), Tree(api.EInt, one),
		Tree(api.EPick, Here(), one), Tree(api.EAdd, Field("x"), Tree(api.ENot)), Tree(api.EAnd, one, api.Expr{}),
		{Op: api.EPick, Kids: slices.Repeat([]api.Expr{Here()}, 1<<17)},
		Nested(api.ENot, 1<<16, api.Expr{}), Nested(api.ENot, 12, api.Expr{}),
	} {
		list = append(list, Wrong[api.Expr]{e, api.ErrTree})
	}
	for _, e := range []api.Expr{
		Nested(api.ENot, 12, Here()), Nested(api.ENot, 12, Field("x")), Nested(api.ENeg, 100, Here()), Nested(api.ENot, 1<<16, Here()),
		Tree(api.EAdd, Field("x"), Nested(api.ENot, 11, Here())),
	} {
		list = append(list, Wrong[api.Expr]{e, api.ErrDepth})
	}
	return list
}

// WrongPrograms: what syntax.Check refuses. Some of them name a field x.
func WrongPrograms() []Wrong[[]api.Stmt] {
	misfit, news := api.Stmt{Op: api.SClear, Field: "x"}, api.Stmt{Op: api.SNew}
	ifs := []api.Stmt{misfit}
	for range 1 << 16 {
		ifs = []api.Stmt{Choice(Here(), ifs, nil)}
	}
	var list []Wrong[[]api.Stmt]
	for _, p := range [][]api.Stmt{
		slices.Repeat([]api.Stmt{misfit}, 33), slices.Repeat([]api.Stmt{news}, 1<<17), ifs,
		{misfit, Choice(Here(), slices.Repeat([]api.Stmt{news}, 15), slices.Repeat([]api.Stmt{news}, 16))},
	} {
		list = append(list, Wrong[[]api.Stmt]{p, api.ErrMany})
	}
	for _, p := range [][]api.Stmt{
		{{}}, {misfit, {}}, {{Op: 9}}, {{Op: -1 << 63}}, {{Op: api.SSet, Field: "n"}}, {Change(api.SSet, "", Number(1))},
		{{Op: api.SNew, Field: "n"}}, {{Op: api.SDelete, Exprs: []api.Expr{Here()}}}, {{Op: api.SClear, Field: "if"}}, {{Op: api.SIf}},
		{{Op: api.SNew, Then: []api.Stmt{news}}}, {{Op: api.SClear, Field: "m", Else: []api.Stmt{news}}},
		{misfit, Choice(Here(), []api.Stmt{misfit, {}}, nil)}, append(slices.Repeat([]api.Stmt{news}, 1<<17), api.Stmt{}),
	} {
		list = append(list, Wrong[[]api.Stmt]{p, api.ErrTree})
	}
	for _, w := range WrongExprs() {
		list = append(list,
			Wrong[[]api.Stmt]{[]api.Stmt{misfit, Change(api.SSet, "n", w.Part)}, w.Errno},
			Wrong[[]api.Stmt]{[]api.Stmt{Choice(Here(), nil, []api.Stmt{Choice(w.Part, nil, nil)})}, w.Errno})
	}
	deep := []api.Stmt{misfit, Change(api.SSet, "on", Nested(api.ENot, 11, Here()))}
	return append(list, Wrong[[]api.Stmt]{deep, api.ErrDepth})
}
