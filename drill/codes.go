package drill

import (
	"slices"

	"arbor/api"
)

// insSigns: what an instruction leaves on the stack, and what it takes then.
func insSigns() []Sign {
	return []Sign{
		{api.INot, 'b', "b"}, {api.INeg, 'i', "i"}, {api.ILen, 'i', "s"}, {api.ICat, 's', "ss"},
		{api.IAdd, 'i', "ii"}, {api.ISub, 'i', "ii"}, {api.IMul, 'i', "ii"}, {api.IMin, 'i', "ii"}, {api.IMax, 'i', "ii"},
		{api.ILt, 'b', "ii"}, {api.ILe, 'b', "ii"}, {api.IEq, 'b', "ii"},
		{api.ILt, 'b', "ss"}, {api.ILe, 'b', "ss"}, {api.IEq, 'b', "ss"},
		{api.IEq, 'b', "bb"},
	}
}

// Leaf: an instruction that takes nothing from the stack and leaves a value of a type there.
func (f Fitting) Leaf(of int) api.Ins {
	v := f.Value(of)
	list := []api.Ins{{Op: api.IPush, N: v.N}}
	switch of {
	case api.Bool:
		list = []api.Ins{{Op: api.ITrue}, {Op: api.IFalse}, {Op: api.IHere}}
	case api.Bytes:
		list = []api.Ins{{Op: api.IBytes, S: v.S}}
	}
	for number, field := range f.Schema.Fields {
		if field.Type == of {
			list = append(list, api.Ins{Op: api.ILoad, N: int64(number)})
		}
		if of == api.Bool && field.Optional {
			list = append(list, api.Ins{Op: api.IHas, N: int64(number)})
		}
	}
	return Pick(f.Numbers, list)
}

// ValueCode: instructions that leave a value of a type on the stack, whatever stands there. At a great depth they may be too many for a code, as those of Code.
func (f Fitting) ValueCode(of, deep int) []api.Ins {
	if deep <= 1 || f.Numbers.Below(6) == 0 {
		return []api.Ins{f.Leaf(of)}
	}
	switch f.Numbers.Below(6) {
	case 0:
		return f.choiceCode(deep, f.ValueCode(of, deep-1), f.ValueCode(of, deep-1))
	case 1:
		return slices.Concat(f.ValueCode(of, deep-1), f.Code(deep-2))
	}
	sign := Pick(f.Numbers, signsOf(insSigns(), of))
	var is []api.Ins
	for _, letter := range sign.Kids {
		kid, _ := TypeOf(letter)
		is = append(is, f.ValueCode(kid, deep-1)...)
	}
	return append(is, api.Ins{Op: sign.Op})
}

func signsOf(signs []Sign, of int) []Sign {
	var list []Sign
	for _, sign := range signs {
		if is, _ := TypeOf(sign.Is); is == of {
			list = append(list, sign)
		}
	}
	return list
}

// choiceCode: a bool, and then one of two codes. Between these stands now and then what nothing reaches.
func (f Fitting) choiceCode(deep int, then, otherwise []api.Ins) []api.Ins {
	idle := f.idle()
	return slices.Concat(
		f.ValueCode(api.Bool, deep-1),
		[]api.Ins{{Op: api.IUnless, N: int64(len(then) + 1 + len(idle))}},
		then,
		[]api.Ins{{Op: api.IJump, N: int64(len(idle) + len(otherwise))}},
		idle,
		otherwise)
}

// idle: a few instructions, or none, that fit nowhere but by chance.
func (f Fitting) idle() []api.Ins {
	var is []api.Ins
	for range max(0, f.Numbers.Below(4)-1) {
		op := Pick(f.Numbers, insSigns()).Op
		is = append(is, Pick(f.Numbers, []api.Ins{f.Leaf(1 + f.Numbers.Below(3)), {Op: op}, {Op: api.IDelete}, {Op: api.IUnless}}))
	}
	return is
}

// StmtCode: instructions behind which the stack is as it was.
func (f Fitting) StmtCode(deep int) []api.Ins {
	number := f.Numbers.Below(len(f.Schema.Fields))
	field := f.Schema.Fields[number]
	switch f.Numbers.Below(8) {
	case 0, 1:
		return append(f.ValueCode(field.Type, deep-1), api.Ins{Op: api.IStore, N: int64(number)})
	case 2:
		if field.Type == api.Int {
			return append(f.ValueCode(api.Int, deep-1), api.Ins{Op: api.IAddTo, N: int64(number)})
		}
	case 3:
		if field.Optional {
			return []api.Ins{{Op: api.IClear, N: int64(number)}}
		}
	case 4:
		return []api.Ins{{Op: Pick(f.Numbers, []int{api.INew, api.IDelete})}}
	case 5:
		return f.choiceCode(deep, f.Code(deep-1), f.Code(deep-1))
	case 6:
		then := f.Code(deep - 1)
		return slices.Concat(f.ValueCode(api.Bool, deep-1), []api.Ins{{Op: api.IUnless, N: int64(len(then))}}, then)
	default:
		idle := f.idle()
		return append([]api.Ins{{Op: api.IJump, N: int64(len(idle))}}, idle...)
	}
	return f.StmtCode(deep)
}

// Code: one that may be run on the rows of the schema, unless it is too long.
func (f Fitting) Code(deep int) []api.Ins {
	var is []api.Ins
	if deep < 1 {
		return is
	}
	for range f.Numbers.Below(4) {
		is = append(is, f.StmtCode(deep)...)
	}
	return is
}
