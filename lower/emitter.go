package lower

import (
	"slices"

	"arbor/api"
)

// emitter: the plain code of what fits a schema, as far as it has come.
type emitter struct {
	schema api.Schema
	is     []api.Ins
}

// plainCode: that of a program that fits the schema.
func plainCode(s api.Schema, p []api.Stmt) []api.Ins {
	m := &emitter{schema: s}
	m.stmts(p)
	return m.is
}

func (m *emitter) emit(is ...api.Ins) {
	m.is = append(m.is, is...)
}

// jump emits a jump whose target is not known yet, and tells its place.
func (m *emitter) jump(op int) int {
	m.emit(api.Ins{Op: op})
	return len(m.is) - 1
}

// land: what is emitted next is the target of the jump at a place.
func (m *emitter) land(at int) {
	m.is[at].N = int64(len(m.is) - at - 1)
}

// choice emits what is to be done where a bool on the stack is true, and what is else.
func (m *emitter) choice(then, otherwise func()) {
	unless := m.jump(api.IUnless)
	then()
	end := m.jump(api.IJump)
	m.land(unless)
	otherwise()
	m.land(end)
}

// number: that of a field of the schema.
func (m *emitter) number(name string) int64 {
	return int64(slices.IndexFunc(m.schema.Fields, func(f api.Field) bool { return f.Name == name }))
}

func (m *emitter) optional(name string) bool {
	return m.schema.Fields[m.number(name)].Optional
}
