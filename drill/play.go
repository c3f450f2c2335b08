package drill

import (
	"slices"
	"strings"

	"arbor/api"
	"arbor/code"
)

// Play: what a code makes of a row, told straight from the table of instructions. It is a plain stand-in for the machine, for codes that may be run on the rows of the schema alone.
func Play(s api.Schema, is []api.Ins, row api.Row) api.Row {
	p := player{schema: s, row: api.Row{Here: row.Here, Vals: slices.Clone(row.Vals)}}
	for at := 0; at < len(is); at++ {
		switch ins := is[at]; ins.Op {
		case api.IJump:
			at += int(ins.N)
		case api.IUnless:
			if p.pop().N == 0 {
				at += int(ins.N)
			}
		case api.IStore, api.IAddTo, api.IClear, api.INew, api.IDelete:
			p.change(ins)
		case api.INot, api.INeg, api.ILen:
			p.push(ofOne(ins.Op, p.pop()))
		case api.IAdd, api.ISub, api.IMul, api.IMin, api.IMax, api.ILt, api.ILe, api.IEq, api.ICat:
			b, a := p.pop(), p.pop()
			p.push(ofTwo(ins.Op, a, b))
		default:
			p.push(p.asked(ins))
		}
	}
	return p.row
}

// PlayMessages: what messages make of a row, one behind the other, all of which may be.
func PlayMessages(s api.Schema, row api.Row, ms ...api.Message) api.Row {
	for _, m := range ms {
		switch m.Kind {
		case api.MPut:
			row = api.Row{Here: true, Vals: slices.Clone(m.Vals)}
		case api.MDelete:
			row = api.Row{}
		default:
			is, _ := code.Decode(m.Code)
			row = Play(s, is, row)
		}
	}
	return row
}

type player struct {
	schema api.Schema
	row    api.Row
	stack  []api.Value
}

func (p *player) push(v api.Value) {
	p.stack = append(p.stack, v)
}

func (p *player) pop() api.Value {
	top := len(p.stack) - 1
	v := p.stack[top]
	p.stack = p.stack[:top]
	return v
}

// asked: what an instruction leaves on the stack that takes nothing from it.
func (p *player) asked(ins api.Ins) api.Value {
	present := p.row.Here && (ins.Op == api.ILoad || ins.Op == api.IHas) && p.row.Vals[ins.N].Kind != api.None
	switch ins.Op {
	case api.IPush:
		return anInt(ins.N)
	case api.IBytes:
		return api.Value{Kind: api.Bytes, S: ins.S}
	case api.IHere:
		return aBool(p.row.Here)
	case api.IHas:
		return aBool(present)
	case api.ILoad:
		if present {
			return p.row.Vals[ins.N]
		}
		return api.Value{Kind: p.schema.Fields[ins.N].Type}
	}
	return aBool(ins.Op == api.ITrue)
}

// change: what an instruction does to the row.
func (p *player) change(ins api.Ins) {
	var v api.Value
	if ins.Op == api.IStore || ins.Op == api.IAddTo {
		v = p.pop()
	}
	switch {
	case ins.Op == api.IDelete:
		p.row = api.Row{}
	case ins.Op == api.INew && !p.row.Here:
		p.row.Here = true
		for _, f := range p.schema.Fields {
			zero := api.Value{Kind: f.Type}
			if f.Optional {
				zero = api.Value{}
			}
			p.row.Vals = append(p.row.Vals, zero)
		}
	case ins.Op == api.INew || !p.row.Here:
	case ins.Op == api.IAddTo:
		p.row.Vals[ins.N] = anInt(p.row.Vals[ins.N].N + v.N)
	default:
		p.row.Vals[ins.N] = v
	}
}

func ofOne(op int, a api.Value) api.Value {
	switch op {
	case api.INot:
		return aBool(a.N == 0)
	case api.INeg:
		return anInt(-a.N)
	}
	return anInt(int64(len(a.S)))
}

func ofTwo(op int, a, b api.Value) api.Value {
	less := a.N < b.N || strings.Compare(a.S, b.S) < 0
	switch op {
	case api.IAdd:
		return anInt(a.N + b.N)
	case api.ISub:
		return anInt(a.N - b.N)
	case api.IMul:
		return anInt(a.N * b.N)
	case api.IMin:
		return anInt(min(a.N, b.N))
	case api.IMax:
		return anInt(max(a.N, b.N))
	case api.ILt:
		return aBool(less)
	case api.ILe:
		return aBool(less || a == b)
	case api.IEq:
		return aBool(a == b)
	}
	whole := a.S + b.S
	return api.Value{Kind: api.Bytes, S: whole[:min(len(whole), api.MaxBytes)]}
}

func anInt(n int64) api.Value { return api.Value{Kind: api.Int, N: n} }

func aBool(is bool) api.Value {
	if is {
		return api.Value{Kind: api.Bool, N: 1}
	}
	return api.Value{Kind: api.Bool}
}
