package lower_test

import (
	"slices"
	"testing"

	"arbor/api"
	"arbor/code"
	"arbor/drill"
	"arbor/lower"
)

// P12.3: every short code out of some instructions that may be run.
func TestPeepholeOfEveryShortCode(t *testing.T) {
	s := drill.SchemaOf(exampleSchema)
	rows := exampleRows()
	for _, text := range []string{
		"here; not; unless 0; unless 1; jump 0; jump 1; delete; new",
		"push 1; push -3; addto 0; addto 1; jump 1; here; unless 1; unless 2",
		"load 0; neg; store 1; jump 0; jump 1; has 1; unless 1; not",
		"load 2; not; eq; jump 1; unless 2; jump 2; here; store 2",
		"push 1; addto 0; jump 0; jump 1; jump 2; new; unless 0; here",
	} {
		alphabet, right, shorter := drill.CodeOf(text), 0, 0
		for length := range 7 {
			drill.Scripts(alphabet, length, func(is []api.Ins) {
				if _, _, e := code.Verify(s, is...); e != api.OK {
					return
				}
				right++
				if len(wantPeephole(t, s, is, rows)) < len(is) {
					shorter++
				}
			})
		}
		if right < 500 || shorter < 100 {
			t.Errorf("%s: %d codes may be run, %d became shorter", text, right, shorter)
		}
	}
}

// putIn: a code with others put in at a place. Jumps that went there go to what is put in, or behind it.
func putIn(is []api.Ins, place int, more []api.Ins, behind bool) []api.Ins {
	var all []api.Ins
	for at, ins := range is {
		if at == place {
			all = append(all, more...)
		}
		if ins.Op == api.IJump || ins.Op == api.IUnless {
			target := at + 1 + int(ins.N)
			if at < place && (target > place || target == place && behind) {
				ins.N += int64(len(more))
			}
		}
		all = append(all, ins)
	}
	if place == len(is) {
		all = append(all, more...)
	}
	return all
}

// slackFor: instructions that do nothing, or sums, for a place with such a stack.
func slackFor(fitting drill.Fitting, stack string) []api.Ins {
	numbers := fitting.Numbers
	switch top := stack[max(0, len(stack)-1):]; {
	case top == "b" && numbers.Below(2) == 0:
		return drill.CodeOf("not; not")
	case top == "i" && numbers.Below(2) == 0:
		return drill.CodeOf("neg; neg")
	case numbers.Below(2) == 0:
		idle := slices.Repeat([]api.Ins{fitting.Leaf(1 + numbers.Below(3))}, numbers.Below(3))
		return append([]api.Ins{{Op: api.IJump, N: int64(len(idle))}}, idle...)
	}
	n := bookNumber(fitting.Schema, "n")
	var is []api.Ins
	for range 1 + numbers.Below(2) {
		is = append(is, api.Ins{Op: api.IPush, N: fitting.Value(api.Int).N}, api.Ins{Op: api.IAddTo, N: n})
	}
	return is
}

// P12.3: codes of all kinds, with slack put in again and again, also into slack.
func TestPeepholeOfLongCodes(t *testing.T) {
	numbers := drill.Numbers(127)
	for _, s := range drill.Schemas() {
		fitting := drill.Fitting{Schema: s, Numbers: &numbers}
		right, loose, base := 0, 0, fitting.Rows(0)
		for i := range 4000 {
			is := fitting.Code(2 + i%4)
			for range numbers.Below(6) {
				types, e := code.Types(s, is...)
				place := numbers.Below(len(is) + 1)
				if e != api.OK || types[place] == "-" || len(types[place]) > 14 {
					continue
				}
				is = putIn(is, place, slackFor(fitting, types[place]), numbers.Below(2) == 0)
			}
			if _, at, e := code.Verify(s, is...); e != api.OK {
				if e != api.ErrCode || at != len(is) {
					t.Fatalf("%s: %d at %d", drill.ShownCode(is), e, at)
				}
				continue
			}
			right++
			if drill.Slack(s, is) != "" {
				loose++
			}
			wantPeephole(t, s, is, append(base, fitting.Row(), fitting.Row()))
		}
		if right < 2000 || loose < 1000 {
			t.Errorf("%d codes may be run, %d had slack", right, loose)
		}
	}
}

// P12.3: what looks like slack and is none, for a jump goes there, does what it did.
func TestJumpsIntoWhatLooksLikeSlack(t *testing.T) {
	s := drill.SchemaOf(exampleSchema)
	for _, text := range []string{
		"load 2; here; unless 1; not; not; store 2",
		"load 2; has 1; unless 1; not; not; not; store 2",
		"load 2; has 1; unless 2; not; not; not; store 2",
		"load 0; has 1; unless 1; neg; neg; store 0",
		"load 0; has 1; unless 1; neg; neg; neg; neg; store 0",
		"has 1; unless 2; push 1; addto 0; push 2; addto 0",
		"push 7; has 1; unless 2; addto 0; push 1; addto 0; push 2; addto 0",
		"push 8; push 9; has 1; unless 4; addto 0; push 1; addto 0; push 2; addto 0; addto 0",
		"has 1; unless 4; push 1; addto 0; push 2; addto 0; push 3; addto 0",
		"has 1; unless 2; push 1; addto 0; push 2; addto 0; push 3; addto 0",
		"has 1; unless 2; load 2; jump 2; load 2; not; not; store 2",
		"has 1; unless 3; load 2; not; jump 1; load 2; not; store 2",
	} {
		is := drill.CodeOf(text)
		if _, at, e := code.Verify(s, is...); e != api.OK {
			t.Errorf("%s: %d at %d", text, e, at)
			continue
		}
		wantPeephole(t, s, is, exampleRows())
	}
}

// P12.3: slack that shows only where other slack is gone.
func TestSlackBehindSlack(t *testing.T) {
	s := drill.SchemaOf(exampleSchema)
	for _, c := range []struct {
		text string
		most int // instructions
	}{
		{"load 2; not; jump 0; not; store 2", 2},
		{"load 2; not; not; not; not; store 2", 2},
		{"load 2; not; not; not; store 2", 3},
		{"load 2; not; jump 1; delete; not; store 2", 2},
		{"load 2; not; jump 2; unless 0; here; not; store 2", 2},
		{"load 0; neg; jump 1; jump 1; neg; store 0", 2},
		{"jump 2; add; jump 0; jump 1; eq; new", 1},
		{"jump 0; jump 0; jump 0", 0},
		{"push 1; addto 0; jump 0; push 2; addto 0", 2},
		{"push 1; jump 1; push 2; addto 0; push 3; jump 0; addto 0", 2},
		{"push 1; addto 0; push 2; addto 0; push 3; addto 0; push 4; addto 0", 2},
		{"push 1; addto 0; jump 1; jump 2; push 2; addto 0; push 3; addto 0", 2},
		{"push 9223372036854775807; addto 0; push 1; addto 0", 2},
		{"push -64; addto 1; push -1; addto 1", 2},
		{"here; not; not; unless 2; jump 0; delete; jump 0", 3},
		{"has 1; unless 1; jump 0; new", 3},
		{"has 1; unless 2; jump 1; jump 0; new", 3},
		{"has 1; unless 2; push 1; jump 1; push 2; neg; neg; store 0", 6},
		{"has 1; unless 6; push 1; addto 0; push 2; addto 0; load 2; unless 0; delete", 7},
	} {
		is := drill.CodeOf(c.text)
		if got := wantPeephole(t, s, is, exampleRows()); len(got) > c.most {
			t.Errorf("Peephole(%s) = %s, want %d instructions at most", c.text, drill.ShownCode(got), c.most)
		}
	}
}

// P12.3: sums of every two numbers at the edges, into a field that is always there, and one that may be absent.
func TestSumsOfEveryTwoInts(t *testing.T) {
	s := drill.SchemaOf(exampleSchema)
	for _, a := range drill.Values(api.Int) {
		for _, b := range drill.Values(api.Int) {
			for field := range int64(2) {
				is := []api.Ins{{Op: api.IPush, N: a.N}, {Op: api.IAddTo, N: field}, {Op: api.IPush, N: b.N}, {Op: api.IAddTo, N: field}}
				wantPeephole(t, s, is, exampleRows())
				is[3].N = 1 - field
				wantPeephole(t, s, is, exampleRows())
			}
		}
	}
}

// P12.3: codes of as many bytes and instructions as there may be.
func TestGreatestCodes(t *testing.T) {
	s := drill.SchemaOf(exampleSchema)
	for _, is := range [][]api.Ins{
		slices.Repeat(drill.CodeOf("new"), 96),
		slices.Repeat(drill.CodeOf("push 1; addto 0"), 24),
		slices.Repeat(drill.CodeOf("jump 0"), 48),
		append([]api.Ins{{Op: api.IJump, N: 94}}, slices.Repeat(drill.CodeOf("delete"), 94)...),
		slices.Concat(drill.CodeOf("load 2"), slices.Repeat(drill.CodeOf("not"), 92), drill.CodeOf("store 2")),
		slices.Concat(slices.Repeat(drill.CodeOf("load 0"), 16), slices.Repeat(drill.CodeOf("neg"), 46), slices.Repeat(drill.CodeOf("add"), 15), drill.CodeOf("store 0")),
	} {
		wantPeephole(t, s, is, exampleRows())
	}
}

func wantPeepholeRefused(t *testing.T, s api.Schema, is []api.Ins, want api.Errno) {
	t.Helper()
	if got, e := lower.Peephole(s, is...); len(got) != 0 || e != want {
		t.Fatalf("Peephole(%.200s) = %.200s, %d, want %d", drill.ShownCode(is), drill.ShownCode(got), e, want)
	}
}

// P12.3: the errors are those of code.Verify, and no code comes with them.
func TestErrorsAreThoseOfVerify(t *testing.T) {
	s := drill.SchemaOf(exampleSchema)
	for text, e := range map[string]api.Errno{
		"push 1": api.ErrStack, "jump 1": api.ErrJump, "has 0; unless 0": api.ErrOperand, "load 4; store 0": api.ErrOperand, "push 1; store 2": api.ErrStack,
		"jump 1; load 8; new": api.ErrOperand, "jump 1; jump 9; new": api.ErrJump, "not; not": api.ErrStack, "jump 256": api.ErrOperand,
		"here; unless 1; push 1; store 0": api.ErrStack,
	} {
		wantPeepholeRefused(t, s, drill.CodeOf(text), e)
		wantPeepholeRefused(t, api.Schema{}, drill.CodeOf(text), api.ErrSchema)
	}
	wantPeepholeRefused(t, s, slices.Repeat(drill.CodeOf("new"), 97), api.ErrCode)
	wantPeepholeRefused(t, s, slices.Repeat(drill.CodeOf("jump 0"), 49), api.ErrCode)
	wantPeepholeRefused(t, s, make([]api.Ins, 1<<17), api.ErrCode)
	wantPeepholeRefused(t, s, []api.Ins{{Op: 27}}, api.ErrCode)
	wantPeepholeRefused(t, s, []api.Ins{{Op: api.INew, S: "a"}}, api.ErrOperand)
	numbers := drill.Numbers(128)
	for _, s := range drill.Schemas() {
		fitting, wrong := drill.Fitting{Schema: s, Numbers: &numbers}, 0
		for i := range 3000 {
			is := fitting.Code(2 + i%3)
			if len(is) == 0 {
				continue
			}
			is[numbers.Below(len(is))] = drill.Pick(&numbers, append(fitting.ValueCode(1+i%3, 2), api.Ins{Op: api.IJump, N: int64(i % 9)}))
			if _, _, e := code.Verify(s, is...); e != api.OK {
				wrong++
				wantPeepholeRefused(t, s, is, e)
			}
		}
		if wrong < 500 {
			t.Errorf("only %d codes are wrong", wrong)
		}
	}
	for _, none := range drill.WrongSchemas() {
		wantPeepholeRefused(t, none, nil, api.ErrSchema)
		wantPeepholeRefused(t, none, drill.CodeOf("new; not"), api.ErrSchema)
	}
}
