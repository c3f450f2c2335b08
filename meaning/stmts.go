package meaning

import (
	"slices"

	"arbor/api"
)

// act: a statement or a list of them as a closure: it changes a row, which is the call's own.
type act func(row *api.Row)

// program: the closure of a list of statements.
func (m *maker) program(p []api.Stmt) act {
	acts := make([]act, len(p))
	for i, st := range p {
		acts[i] = m.stmt(st)
	}
	return func(row *api.Row) {
		for _, a := range acts {
			a(row)
		}
	}
}

func (m *maker) stmt(st api.Stmt) act {
	switch st.Op {
	case api.SNew:
		return m.create
	case api.SDelete:
		return remove
	case api.SClear:
		return m.write(st.Field, always(api.Value{}))
	}
	e := m.expr(st.Exprs[0])
	switch st.Op {
	case api.SSet:
		return m.write(st.Field, e)
	case api.SAdd:
		return m.write(st.Field, joined(m.field(st.Field), e, sum))
	case api.SMin:
		return m.write(st.Field, joined(m.field(st.Field), e, lesser))
	case api.SMax:
		return m.write(st.Field, joined(m.field(st.Field), e, greater))
	default:
		return choose(e, m.program(st.Then), m.program(st.Else))
	}
}

func (m *maker) create(row *api.Row) {
	if !row.Here {
		*row = api.Row{Here: true, Vals: slices.Clone(m.zero)}
	}
}

func remove(row *api.Row) {
	*row = api.Row{}
}

// write: a field becomes what it is to be worth, where there is a record.
func (m *maker) write(name string, w worth) act {
	place := m.places[name]
	return func(row *api.Row) {
		if row.Here {
			row.Vals[place] = w(*row)
		}
	}
}

// joined: what +=, min= and max= make of a field. An absent one becomes the other value in each of them: in a sum it counts as 0.
func joined(f, e worth, both join) worth {
	return func(row api.Row) api.Value {
		if v := f(row); isPresent(v) {
			return both(v, e(row))
		}
		return e(row)
	}
}

func choose(e worth, then, otherwise act) act {
	return func(row *api.Row) {
		if isTrue(e(*row)) {
			then(row)
		} else {
			otherwise(row)
		}
	}
}
