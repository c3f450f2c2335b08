package code

import (
	"math"

	"arbor/api"
)

// operand: what an instruction bears beside its operation.
type operand int

const (
	noOperand operand = iota
	numberOperand
	bytesOperand
	fieldOperand
	optionalOperand // an optional field
	intOperand      // a field of type int
	jumpOperand     // how many instructions are passed over
)

// kind: a type of what stands on the stack. The kinds behind bytesKind stand on none: they say of what an operation takes or gives which types may stand there.
type kind int

const (
	noKind  kind = iota
	intKind      // this one and the next two are numbered like the types of fields
	boolKind
	bytesKind
	fieldKind // that of the instruction's field
	orderKind // those that have an order: ints and bytes
	anyKind
)

// operation: its word, its operand, what it takes from the stack and what it gives. As many values as it takes are all of one type.
type operation struct {
	word    string
	operand operand
	takes   int
	of      kind
	gives   kind
}

// operations: by number.
var operations = [...]operation{
	api.IPush:   {word: "push", operand: numberOperand, gives: intKind},
	api.ITrue:   {word: "true", gives: boolKind},
	api.IFalse:  {word: "false", gives: boolKind},
	api.IBytes:  {word: "bytes", operand: bytesOperand, gives: bytesKind},
	api.ILoad:   {word: "load", operand: fieldOperand, gives: fieldKind},
	api.IHas:    {word: "has", operand: optionalOperand, gives: boolKind},
	api.IHere:   {word: "here", gives: boolKind},
	api.INot:    {word: "not", takes: 1, of: boolKind, gives: boolKind},
	api.INeg:    {word: "neg", takes: 1, of: intKind, gives: intKind},
	api.IAdd:    {word: "add", takes: 2, of: intKind, gives: intKind},
	api.ISub:    {word: "sub", takes: 2, of: intKind, gives: intKind},
	api.IMul:    {word: "mul", takes: 2, of: intKind, gives: intKind},
	api.IMin:    {word: "min", takes: 2, of: intKind, gives: intKind},
	api.IMax:    {word: "max", takes: 2, of: intKind, gives: intKind},
	api.ILt:     {word: "lt", takes: 2, of: orderKind, gives: boolKind},
	api.ILe:     {word: "le", takes: 2, of: orderKind, gives: boolKind},
	api.IEq:     {word: "eq", takes: 2, of: anyKind, gives: boolKind},
	api.ILen:    {word: "len", takes: 1, of: bytesKind, gives: intKind},
	api.ICat:    {word: "cat", takes: 2, of: bytesKind, gives: bytesKind},
	api.IStore:  {word: "store", operand: fieldOperand, takes: 1, of: fieldKind},
	api.IAddTo:  {word: "addto", operand: intOperand, takes: 1, of: intKind},
	api.IClear:  {word: "clear", operand: optionalOperand},
	api.INew:    {word: "new"},
	api.IDelete: {word: "delete"},
	api.IJump:   {word: "jump", operand: jumpOperand},
	api.IUnless: {word: "unless", operand: jumpOperand, takes: 1, of: boolKind},
}

// checkForm: what is wrong with an instruction's form, or OK.
func checkForm(ins api.Ins) api.Errno {
	switch {
	case !isOperation(ins.Op):
		return api.ErrCode
	case !rightOperand(ins):
		return api.ErrOperand
	}
	return api.OK
}

func isOperation(op int) bool {
	return api.IPush <= op && op <= api.IUnless
}

// rightOperand asks no schema: of a field only whether one might have such a number.
func rightOperand(ins api.Ins) bool {
	switch operations[ins.Op].operand {
	case noOperand:
		return ins.N == 0 && ins.S == ""
	case numberOperand:
		return ins.S == ""
	case bytesOperand:
		return ins.N == 0 && len(ins.S) <= api.MaxBytes
	case jumpOperand:
		return ins.S == "" && 0 <= ins.N && ins.N <= math.MaxUint8
	default:
		return ins.S == "" && 0 <= ins.N && ins.N < api.MaxFields
	}
}

func isJump(ins api.Ins) bool {
	return operations[ins.Op].operand == jumpOperand
}

// target: the place to which a jump at a place leads.
func target(at int, ins api.Ins) int {
	return at + 1 + int(ins.N)
}
