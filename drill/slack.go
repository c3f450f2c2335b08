package drill

import (
	"slices"
	"strconv"

	"arbor/api"
	"arbor/code"
)

// CodeSize: the bytes of instructions whose forms are right, however many there are.
func CodeSize(is []api.Ins) int {
	size := 0
	for _, ins := range is {
		size += insSize(ins)
	}
	return size
}

func insSize(ins api.Ins) int {
	switch ins.Op {
	case api.IPush:
		size := 2
		for turned := uint64(ins.N<<1) ^ uint64(ins.N>>63); turned > 127; turned >>= 7 {
			size++
		}
		return size
	case api.IBytes:
		return 2 + len(ins.S)
	}
	if operandIsNumber(ins.Op) {
		return 2
	}
	return 1
}

// JumpsTo: does a jump of a code go to one of some places?
func JumpsTo(is []api.Ins, places ...int) bool {
	for at, ins := range is {
		if (ins.Op == api.IJump || ins.Op == api.IUnless) && slices.Contains(places, at+1+int(ins.N)) {
			return true
		}
	}
	return false
}

// Slack: what slack a code has that may be run, the first of it; or nothing.
func Slack(s api.Schema, is []api.Ins) string {
	types, e := code.Types(s, is...)
	if e != api.OK {
		return "it may not be run"
	}
	for at, ins := range is {
		there := "at " + strconv.Itoa(at)
		switch {
		case types[at] == "-":
			return "nothing reaches what is " + there
		case ins == api.Ins{Op: api.IJump}:
			return "a jump of nothing " + there
		case at+1 < len(is) && is[at+1] == ins && (ins.Op == api.INot || ins.Op == api.INeg) && !JumpsTo(is, at+1):
			return "two that undo one another " + there
		case at+3 < len(is) && ins.Op == api.IPush && is[at+1].Op == api.IAddTo && is[at+2].Op == api.IPush && is[at+3] == is[at+1] && !JumpsTo(is, at+1, at+2, at+3):
			return "two sums " + there
		}
	}
	return ""
}
