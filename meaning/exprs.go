package meaning

import (
	"cmp"

	"arbor/api"
	"arbor/value"
)

// worth: an expression as a closure: its value on a row of the schema.
type worth func(row api.Row) api.Value

// join: what two values become together.
type join func(a, b api.Value) api.Value

// maker: makes closures of what fits one schema.
type maker struct {
	places     map[string]int // of the fields, in the records
	zero       []api.Value    // what fields are worth where there is no record
	operations []func(kids []worth) worth
}

func newMaker(s api.Schema) *maker {
	m := &maker{places: map[string]int{}, zero: value.Zero(s), operations: operations()}
	for place, f := range s.Fields {
		m.places[f.Name] = place
	}
	return m
}

// operations: by operation, how its closure is made of those of its kids.
func operations() []func(kids []worth) worth {
	return []func(kids []worth) worth{
		api.ENot:  one(func(a api.Value) api.Value { return truth(a.N == 0) }),
		api.ENeg:  one(func(a api.Value) api.Value { return number(-a.N) }),
		api.EAdd:  two(sum),
		api.ESub:  two(func(a, b api.Value) api.Value { return number(a.N - b.N) }),
		api.EMul:  two(func(a, b api.Value) api.Value { return number(a.N * b.N) }),
		api.ELt:   two(func(a, b api.Value) api.Value { return truth(order(a, b) < 0) }),
		api.ELe:   two(func(a, b api.Value) api.Value { return truth(order(a, b) <= 0) }),
		api.EGt:   two(func(a, b api.Value) api.Value { return truth(order(a, b) > 0) }),
		api.EGe:   two(func(a, b api.Value) api.Value { return truth(order(a, b) >= 0) }),
		api.EEq:   two(func(a, b api.Value) api.Value { return truth(a == b) }),
		api.ENe:   two(func(a, b api.Value) api.Value { return truth(a != b) }),
		api.EAnd:  two(func(a, b api.Value) api.Value { return truth(isTrue(a) && isTrue(b)) }),
		api.EOr:   two(func(a, b api.Value) api.Value { return truth(isTrue(a) || isTrue(b)) }),
		api.EElse: orElse,
		api.EMin:  two(lesser),
		api.EMax:  two(greater),
		api.ELen:  one(func(a api.Value) api.Value { return number(int64(len(a.S))) }),
		api.ECat:  two(cat),
		api.EPick: pick,
	}
}

// expr: the closure of an expression.
func (m *maker) expr(e api.Expr) worth {
	switch e.Op {
	case api.EInt:
		return always(number(e.N))
	case api.EBool:
		return always(truth(e.N == 1))
	case api.EBytes:
		return always(text(e.S))
	case api.EField:
		return m.field(e.S)
	case api.EHas:
		return m.has(e.S)
	case api.EHere:
		return func(row api.Row) api.Value { return truth(row.Here) }
	}
	kids := make([]worth, len(e.Kids))
	for i, kid := range e.Kids {
		kids[i] = m.expr(kid)
	}
	return m.operations[e.Op](kids)
}

func always(v api.Value) worth {
	return func(api.Row) api.Value { return v }
}

func (m *maker) field(name string) worth {
	place := m.places[name]
	return func(row api.Row) api.Value {
		if !row.Here {
			return m.zero[place]
		}
		return row.Vals[place]
	}
}

// has: where there is no record an optional field has the zero record's value, so it is absent.
func (m *maker) has(name string) worth {
	f := m.field(name)
	return func(row api.Row) api.Value { return truth(isPresent(f(row))) }
}

func one(turn func(a api.Value) api.Value) func(kids []worth) worth {
	return func(kids []worth) worth {
		a := kids[0]
		return func(row api.Row) api.Value { return turn(a(row)) }
	}
}

func two(both join) func(kids []worth) worth {
	return func(kids []worth) worth {
		a, b := kids[0], kids[1]
		return func(row api.Row) api.Value { return both(a(row), b(row)) }
	}
}

func orElse(kids []worth) worth {
	a, b := kids[0], kids[1]
	return func(row api.Row) api.Value {
		if v := a(row); isPresent(v) {
			return v
		}
		return b(row)
	}
}

func pick(kids []worth) worth {
	c, a, b := kids[0], kids[1], kids[2]
	return func(row api.Row) api.Value {
		if isTrue(c(row)) {
			return a(row)
		}
		return b(row)
	}
}

func number(n int64) api.Value { return api.Value{Kind: api.Int, N: n} }
func text(s string) api.Value  { return api.Value{Kind: api.Bytes, S: s} }

func truth(is bool) api.Value {
	if is {
		return api.Value{Kind: api.Bool, N: 1}
	}
	return api.Value{Kind: api.Bool}
}

func isTrue(v api.Value) bool    { return v.N == 1 }
func isPresent(v api.Value) bool { return v.Kind != api.None }

func sum(a, b api.Value) api.Value     { return number(a.N + b.N) }
func lesser(a, b api.Value) api.Value  { return number(min(a.N, b.N)) }
func greater(a, b api.Value) api.Value { return number(max(a.N, b.N)) }

// order: ints by their size, bytes bytewise. What a type does not use is zero in both, so that the other part alone decides.
func order(a, b api.Value) int {
	return cmp.Or(cmp.Compare(a.N, b.N), cmp.Compare(a.S, b.S))
}

func cat(a, b api.Value) api.Value {
	whole := a.S + b.S
	return text(whole[:min(len(whole), api.MaxBytes)])
}
