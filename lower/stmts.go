package lower

import (
	"math"

	"arbor/api"
)

func (m *emitter) stmts(p []api.Stmt) {
	for _, st := range p {
		lower := m.stmtLowering(st)
		lower(st)
	}
}

// stmtLowering: the one that a statement asks for: by its operation, and by whether what it reads may be absent.
func (m *emitter) stmtLowering(st api.Stmt) func(api.Stmt) {
	switch st.Op {
	case api.SSet:
		if from := st.Exprs[0]; from.Op == api.EField && m.optional(from.S) {
			return m.copyOptional
		}
		return m.set
	case api.SAdd:
		return m.add
	case api.SMin, api.SMax:
		if m.optional(st.Field) {
			return m.boundOptional
		}
		return m.bound
	case api.SClear:
		return m.clear
	case api.SIf:
		return m.choose
	}
	return m.exist
}

func (m *emitter) set(st api.Stmt) {
	m.expr(st.Exprs[0])
	m.emit(api.Ins{Op: api.IStore, N: m.number(st.Field)})
}

// copyOptional: a store makes a field present, so that an absent value needs a way of its own.
func (m *emitter) copyOptional(st api.Stmt) {
	from, to := m.number(st.Exprs[0].S), m.number(st.Field)
	m.emit(api.Ins{Op: api.IHas, N: from})
	m.choice(
		func() { m.emit(api.Ins{Op: api.ILoad, N: from}, api.Ins{Op: api.IStore, N: to}) },
		func() { m.emit(api.Ins{Op: api.IClear, N: to}) })
}

func (m *emitter) add(st api.Stmt) {
	m.expr(st.Exprs[0])
	m.emit(api.Ins{Op: api.IAddTo, N: m.number(st.Field)})
}

func (m *emitter) bound(st api.Stmt) {
	m.emit(api.Ins{Op: api.ILoad, N: m.number(st.Field)})
	m.boundBy(st)
}

// boundOptional: in the place of an absent value stands the one that gives way to every other.
func (m *emitter) boundOptional(st api.Stmt) {
	k, absent := m.number(st.Field), int64(math.MaxInt64)
	if st.Op == api.SMax {
		absent = math.MinInt64
	}
	m.emit(api.Ins{Op: api.IHas, N: k})
	m.choice(
		func() { m.emit(api.Ins{Op: api.ILoad, N: k}) },
		func() { m.emit(api.Ins{Op: api.IPush, N: absent}) })
	m.boundBy(st)
}

// boundBy: the field's value is on the stack already.
func (m *emitter) boundBy(st api.Stmt) {
	op := api.IMin
	if st.Op == api.SMax {
		op = api.IMax
	}
	m.expr(st.Exprs[0])
	m.emit(api.Ins{Op: op}, api.Ins{Op: api.IStore, N: m.number(st.Field)})
}

func (m *emitter) clear(st api.Stmt) {
	m.emit(api.Ins{Op: api.IClear, N: m.number(st.Field)})
}

func (m *emitter) exist(st api.Stmt) {
	op := api.INew
	if st.Op == api.SDelete {
		op = api.IDelete
	}
	m.emit(api.Ins{Op: op})
}

func (m *emitter) choose(st api.Stmt) {
	m.expr(st.Exprs[0])
	if len(st.Else) > 0 {
		m.choice(func() { m.stmts(st.Then) }, func() { m.stmts(st.Else) })
		return
	}
	unless := m.jump(api.IUnless)
	m.stmts(st.Then)
	m.land(unless)
}
