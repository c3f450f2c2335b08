package code

import (
	"slices"

	"arbor/api"
	"arbor/little"
	"arbor/value"
)

// bytesOf: those of instructions whose forms are right, however many there are.
func bytesOf(is []api.Ins) []byte {
	var b []byte
	for _, ins := range is {
		b = append(b, byte(ins.Op))
		switch operations[ins.Op].operand {
		case noOperand:
		case numberOperand:
			b = append(b, intBytes(ins.N)...)
		case bytesOperand:
			b = little.AppendShort(b, ins.S)
		default:
			b = append(b, byte(ins.N))
		}
	}
	return b
}

// take: the instruction at the head of some bytes, of which there is one at least, and what stands behind it.
func take(b []byte) (ins api.Ins, rest []byte, ok bool) {
	ins.Op = int(b[0])
	if !isOperation(ins.Op) {
		return api.Ins{}, nil, false
	}
	rest, ok = b[1:], true
	switch operations[ins.Op].operand {
	case noOperand:
	case numberOperand:
		ins.N, rest, ok = takeInt(rest)
	case bytesOperand:
		ins.S, rest, ok = takeBytes(rest)
	default:
		ins.N, rest, ok = takeByte(rest)
	}
	return ins, rest, ok && rightOperand(ins)
}

func takeByte(b []byte) (n int64, rest []byte, ok bool) {
	if len(b) < 1 {
		return 0, nil, false
	}
	return int64(b[0]), b[1:], true
}

func takeBytes(b []byte) (text string, rest []byte, ok bool) {
	part, rest, ok := little.Short(b)
	return string(part), rest, ok
}

// A record of one plain int has no bytes beside the int's: so value knows how a push writes its number, and which groups are needless or too many.

func intSchema() api.Schema {
	return api.Schema{Fields: []api.Field{{Name: "n", Type: api.Int}}}
}

func intBytes(n int64) []byte {
	b, _ := value.Encode(intSchema(), []api.Value{{Kind: api.Int, N: n}})
	return b
}

func takeInt(b []byte) (n int64, rest []byte, ok bool) {
	end := 1 + slices.IndexFunc(b, lastGroup)
	r, e := value.Decode(intSchema(), b[:end])
	if e != api.OK {
		return 0, nil, false
	}
	return r[0].N, b[end:], true
}

// lastGroup: does no other group of a number come behind this one?
func lastGroup(group byte) bool {
	return group < 128
}
