package machine

import (
	"cmp"

	"arbor/api"
)

// ofOne: what an operation makes of the uppermost value.
func ofOne(op int, a api.Value) api.Value {
	switch op {
	case api.INot:
		return truth(!isTrue(a))
	case api.INeg:
		return number(-a.N)
	default:
		return number(int64(len(a.S)))
	}
}

// ofTwo: what an operation makes of the two uppermost values, b on top.
func ofTwo(op int, a, b api.Value) api.Value {
	switch op {
	case api.IAdd:
		return number(a.N + b.N)
	case api.ISub:
		return number(a.N - b.N)
	case api.IMul:
		return number(a.N * b.N)
	case api.IMin:
		return number(min(a.N, b.N))
	case api.IMax:
		return number(max(a.N, b.N))
	case api.ILt:
		return truth(order(a, b) < 0)
	case api.ILe:
		return truth(order(a, b) <= 0)
	case api.IEq:
		return truth(a == b)
	default:
		return cat(a, b)
	}
}

// order: ints by their size, bytes bytewise. What a type does not use is zero in both, so that the other part alone decides.
func order(a, b api.Value) int {
	return cmp.Or(cmp.Compare(a.N, b.N), cmp.Compare(a.S, b.S))
}

func cat(a, b api.Value) api.Value {
	whole := a.S + b.S
	return text(whole[:min(len(whole), api.MaxBytes)])
}

func number(n int64) api.Value { return api.Value{Kind: api.Int, N: n} }
func text(s string) api.Value  { return api.Value{Kind: api.Bytes, S: s} }

func truth(is bool) api.Value {
	if is {
		return api.Value{Kind: api.Bool, N: 1}
	}
	return api.Value{Kind: api.Bool}
}

func isTrue(v api.Value) bool { return v.N == 1 }
