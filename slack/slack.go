// Package slack: what stands in a code for nothing, as doc/12-lower.md tells it, and codes without it.
package slack

import (
	"slices"

	"arbor/api"
	"arbor/code"
)

// Removed: a code that may be run on the rows of a schema, without its slack. What is none stays: a sum of 0 too, for it makes an absent field present.
func Removed(s api.Schema, is []api.Ins) []api.Ins {
	is = slices.Clone(is)
	for {
		at, n := lookAt(s, is).slack()
		if n == 0 {
			return is
		}
		is = without(is, at, n)
	}
}

// Joined: a code whose jumps stay within it, of whatever length, with the two sums from a place on as one, if they are slack; else as it is.
func Joined(is []api.Ins, at int) []api.Ins {
	is = slices.Clone(is)
	n := view{is: is, goals: goalsOf(is)}.joined(at)
	return without(is, at, n)
}

// view: a code that may be run, the types on the stack at each of its places, and how many jumps go there.
type view struct {
	is    []api.Ins
	types []string
	goals []int
}

func lookAt(s api.Schema, is []api.Ins) view {
	types, _ := code.Types(s, is...)
	return view{is, types, goalsOf(is)}
}

func goalsOf(is []api.Ins) []int {
	goals := make([]int, len(is)+1)
	for at, ins := range is {
		if isJump(ins) {
			goals[target(at, ins)]++
		}
	}
	return goals
}

// slack: the first place at which there is some, and how many instructions from there on have to go; none, if there is no slack.
func (v view) slack() (at, n int) {
	for at := range v.is {
		for _, rule := range []func(int) int{v.idle, v.leadsNowhere, v.undone, v.joined} {
			if n := rule(at); n > 0 {
				return at, n
			}
		}
	}
	return 0, 0
}

// Each rule says how many instructions go from a place on; none, if there is not the slack that it looks for.

func (v view) idle(at int) int {
	if v.types[at] == "-" {
		return 1
	}
	return 0
}

func (v view) leadsNowhere(at int) int {
	if v.is[at].Op == api.IJump && v.is[at].N == 0 {
		return 1
	}
	return 0
}

func (v view) undone(at int) int {
	op := v.is[at].Op
	if (op == api.INot || op == api.INeg) && v.follows(at, op, op) {
		return 2
	}
	return 0
}

// joined: the second sum takes the first one over. Who jumps to the first goes to the second then.
func (v view) joined(at int) int {
	if !v.follows(at, api.IPush, api.IAddTo, api.IPush, api.IAddTo) || v.is[at+1].N != v.is[at+3].N {
		return 0
	}
	v.is[at+2].N += v.is[at].N
	return 2
}

// follows: do these operations stand there from a place on, one behind the other, and no jump goes among them?
func (v view) follows(at int, ops ...int) bool {
	if at < 0 || at+len(ops) > len(v.is) {
		return false
	}
	for i, op := range ops {
		if v.is[at+i].Op != op || i > 0 && v.goals[at+i] > 0 {
			return false
		}
	}
	return true
}

// without: a code, n instructions from a place on left out. A jump over them passes over fewer, a jump to one of them goes on behind them.
func without(is []api.Ins, at, n int) []api.Ins {
	moved := func(place int) int { return place - min(max(place-at, 0), n) }
	var rest []api.Ins
	for i, ins := range is {
		if at <= i && i < at+n {
			continue
		}
		if isJump(ins) {
			ins.N = int64(moved(target(i, ins)) - moved(i) - 1)
		}
		rest = append(rest, ins)
	}
	return rest
}

func isJump(ins api.Ins) bool {
	return ins.Op == api.IJump || ins.Op == api.IUnless
}

// target: the place at which a jump at a place goes on.
func target(at int, ins api.Ins) int {
	return at + 1 + int(ins.N)
}
