package machine

import (
	"arbor/api"
	"arbor/value"
)

// run: what the row is by now, and the stack beside it.
type run struct {
	schema api.Schema
	row    api.Row
	stack  [api.MaxStack]api.Value
	high   int // how many values stand on the stack
}

// play: the steps of the run; ahead is told the place of each of them before it is made. That the stack has room, and holds what an instruction takes, was looked at before the run began.
func (r *run) play(is []api.Ins, ahead func(at int)) {
steps:
	for at := 0; at < len(is); at++ {
		ahead(at)
		ins := is[at]
		switch ins.Op {
		case api.IJump:
			at += int(ins.N)
			continue steps
		case api.IUnless:
			if !isTrue(r.pop()) {
				at += int(ins.N)
			}
			continue steps
		}
		r.step(ins)
	}
}

// step: what an instruction does to the stack and the row, if it is no jump.
func (r *run) step(ins api.Ins) {
	switch ins.Op {
	case api.INot, api.INeg, api.ILen:
		r.push(ofOne(ins.Op, r.pop()))
	case api.IAdd, api.ISub, api.IMul, api.IMin, api.IMax, api.ILt, api.ILe, api.IEq, api.ICat:
		b, a := r.pop(), r.pop()
		r.push(ofTwo(ins.Op, a, b))
	case api.IStore:
		r.set(ins.N, r.pop())
	case api.IAddTo:
		r.add(ins.N, r.pop())
	case api.IClear:
		r.set(ins.N, api.Value{})
	case api.INew:
		r.create()
	case api.IDelete:
		r.row = api.Row{}
	default:
		r.push(r.told(ins))
	}
}

func (r *run) push(v api.Value) {
	r.stack[r.high] = v
	r.high++
}

func (r *run) pop() api.Value {
	r.high--
	return r.stack[r.high]
}

// types: of the stack, a letter a value, from the lowest up.
func (r *run) types() string {
	const letters = "-ibs" // by the kinds of values; what is absent stands on no stack
	text := make([]byte, r.high)
	for i := range text {
		text[i] = letters[r.stack[i].Kind]
	}
	return string(text)
}

// told: the value that an instruction puts onto the stack without taking one.
func (r *run) told(ins api.Ins) api.Value {
	switch ins.Op {
	case api.IPush:
		return number(ins.N)
	case api.IBytes:
		return text(ins.S)
	case api.ILoad:
		return r.load(ins.N)
	case api.IHas:
		return truth(r.has(ins.N))
	case api.IHere:
		return truth(r.row.Here)
	default:
		return truth(ins.Op == api.ITrue)
	}
}

func (r *run) has(field int64) bool {
	return r.row.Here && r.row.Vals[field].Kind != api.None
}

// load: what is not present is worth its type's zero, never absent: the types on the stack are known ahead of the run.
func (r *run) load(field int64) api.Value {
	if !r.has(field) {
		return api.Value{Kind: r.schema.Fields[field].Type}
	}
	return r.row.Vals[field]
}

func (r *run) set(field int64, v api.Value) {
	if r.row.Here {
		r.row.Vals[field] = v
	}
}

func (r *run) add(field int64, v api.Value) {
	r.set(field, number(r.load(field).N+v.N))
}

func (r *run) create() {
	if !r.row.Here {
		r.row = api.Row{Here: true, Vals: value.Zero(r.schema)}
	}
}
