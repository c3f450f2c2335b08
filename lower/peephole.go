package lower

import (
	"slices"

	"arbor/api"
	"arbor/code"
)

// Peephole: a code that does the same to every row, and is not longer.
func Peephole(s api.Schema, is ...api.Ins) ([]api.Ins, api.Errno) {
	if _, _, e := code.Verify(s, is...); e != api.OK {
		return nil, e
	}
	is = slices.Clone(is)
	for {
		at, n := lookAt(s, is).slack()
		if n == 0 {
			return is, api.OK
		}
		is = without(is, at, n)
	}
}

// hole: what the peephole shows: a code that may be run, the types on the stack at each of its places, and how many jumps go there.
type hole struct {
	is    []api.Ins
	types []string
	goals []int
}

func lookAt(s api.Schema, is []api.Ins) hole {
	types, _ := code.Types(s, is...)
	goals := make([]int, len(is)+1)
	for at, ins := range is {
		if isJump(ins) {
			goals[target(at, ins)]++
		}
	}
	return hole{is, types, goals}
}

// slack: the first place at which there is some, and how many instructions from there on have to go; none, if there is no slack.
func (h hole) slack() (at, n int) {
	for at := range h.is {
		for _, rule := range []func(int) int{h.idle, h.leadsNowhere, h.undone, h.joined} {
			if n := rule(at); n > 0 {
				return at, n
			}
		}
	}
	return 0, 0
}

// Each rule says how many instructions go from a place on; none, if there is not the slack that it looks for.

func (h hole) idle(at int) int {
	if h.types[at] == "-" {
		return 1
	}
	return 0
}

func (h hole) leadsNowhere(at int) int {
	if h.is[at].Op == api.IJump && h.is[at].N == 0 {
		return 1
	}
	return 0
}

func (h hole) undone(at int) int {
	op := h.is[at].Op
	if (op == api.INot || op == api.INeg) && h.follows(at, op, op) {
		return 2
	}
	return 0
}

// joined: the second sum takes the first one over. Who jumps to the first goes to the second then.
func (h hole) joined(at int) int {
	if !h.follows(at, api.IPush, api.IAddTo, api.IPush, api.IAddTo) || h.is[at+1].N != h.is[at+3].N {
		return 0
	}
	h.is[at+2].N += h.is[at].N
	return 2
}

// follows: do these operations stand there from a place on, one behind the other, and no jump goes among them?
func (h hole) follows(at int, ops ...int) bool {
	if at+len(ops) > len(h.is) {
		return false
	}
	for i, op := range ops {
		if h.is[at+i].Op != op || i > 0 && h.goals[at+i] > 0 {
			return false
		}
	}
	return true
}

// without: a code, n instructions from a place on left out. A jump over them passes over fewer, a jump to one of them goes on behind them.
func without(is []api.Ins, at, n int) []api.Ins {
	moved := func(place int) int { return place - min(max(place-at, 0), n) }
	var rest []api.Ins
	for i, ins := range is {
		if at <= i && i < at+n {
			continue
		}
		if isJump(ins) {
			ins.N = int64(moved(target(i, ins)) - moved(i) - 1)
		}
		rest = append(rest, ins)
	}
	return rest
}

func isJump(ins api.Ins) bool {
	return ins.Op == api.IJump || ins.Op == api.IUnless
}

// target: the place at which a jump at a place goes on.
func target(at int, ins api.Ins) int {
	return at + 1 + int(ins.N)
}
