package lower

import "arbor/api"

// workers: by an expression's operation, the instruction that works on what its kids left on the stack. For a comparison that the machine has not, it is the opposite one.
var workers = [...]int{
	api.ENot: api.INot,
	api.ENeg: api.INeg,
	api.EAdd: api.IAdd,
	api.ESub: api.ISub,
	api.EMul: api.IMul,
	api.ELt:  api.ILt,
	api.ELe:  api.ILe,
	api.EGt:  api.ILe,
	api.EGe:  api.ILt,
	api.EEq:  api.IEq,
	api.ENe:  api.IEq,
	api.EMin: api.IMin,
	api.EMax: api.IMax,
	api.ELen: api.ILen,
	api.ECat: api.ICat,
}

// expr emits code that leaves an expression's value on the stack.
func (m *emitter) expr(e api.Expr) {
	lower := m.exprLowering(e.Op)
	lower(e)
}

// exprLowering: the one that an expression's operation asks for.
func (m *emitter) exprLowering(op int) func(api.Expr) {
	switch op {
	case api.EInt, api.EBool, api.EBytes:
		return m.literal
	case api.EField, api.EHas, api.EHere:
		return m.asked
	case api.EGt, api.EGe, api.ENe:
		return m.opposite
	case api.EAnd:
		return m.and
	case api.EOr:
		return m.or
	case api.EElse:
		return m.orElse
	case api.EPick:
		return m.pick
	}
	return m.worked
}

func (m *emitter) literal(e api.Expr) {
	switch {
	case e.Op == api.EInt:
		m.emit(api.Ins{Op: api.IPush, N: e.N})
	case e.Op == api.EBytes:
		m.emit(api.Ins{Op: api.IBytes, S: e.S})
	case e.N == 0:
		m.emit(api.Ins{Op: api.IFalse})
	default:
		m.emit(api.Ins{Op: api.ITrue})
	}
}

// asked: what only the row can tell.
func (m *emitter) asked(e api.Expr) {
	switch e.Op {
	case api.EField:
		m.emit(api.Ins{Op: api.ILoad, N: m.number(e.S)})
	case api.EHas:
		m.emit(api.Ins{Op: api.IHas, N: m.number(e.S)})
	default:
		m.emit(api.Ins{Op: api.IHere})
	}
}

func (m *emitter) worked(e api.Expr) {
	for _, kid := range e.Kids {
		m.expr(kid)
	}
	m.emit(api.Ins{Op: workers[e.Op]})
}

func (m *emitter) opposite(e api.Expr) {
	m.worked(e)
	m.emit(api.Ins{Op: api.INot})
}

func (m *emitter) and(e api.Expr) {
	m.expr(e.Kids[0])
	m.choice(
		func() { m.expr(e.Kids[1]) },
		func() { m.emit(api.Ins{Op: api.IFalse}) })
}

func (m *emitter) or(e api.Expr) {
	m.expr(e.Kids[0])
	m.choice(
		func() { m.emit(api.Ins{Op: api.ITrue}) },
		func() { m.expr(e.Kids[1]) })
}

// orElse: what may be absent is an optional field by itself.
func (m *emitter) orElse(e api.Expr) {
	k := m.number(e.Kids[0].S)
	m.emit(api.Ins{Op: api.IHas, N: k})
	m.choice(
		func() { m.emit(api.Ins{Op: api.ILoad, N: k}) },
		func() { m.expr(e.Kids[1]) })
}

func (m *emitter) pick(e api.Expr) {
	m.expr(e.Kids[0])
	m.choice(
		func() { m.expr(e.Kids[1]) },
		func() { m.expr(e.Kids[2]) })
}
