package drill_test

import (
	"slices"
	"testing"

	"arbor/api"
	"arbor/code"
	"arbor/drill"
)

// What is made to fit may be run, unless it is too long; every instruction comes in it, jumps that lead nowhere and what nothing reaches.
func TestCodesThatAreMadeMayBeRun(t *testing.T) {
	numbers := drill.Numbers(8)
	for _, s := range drill.Schemas() {
		fitting := drill.Fitting{Schema: s, Numbers: &numbers}
		ops, right, idle, short, under := map[int]int{}, 0, 0, 0, 0
		for i := range 4000 {
			is := fitting.Code(2 + i%4)
			_, at, e := code.Verify(s, is...)
			if e == api.ErrCode && at == len(is) {
				continue
			}
			texts, e := code.Types(s, is...)
			if e != api.OK {
				t.Fatalf("%s may not be run: %d at %d", drill.ShownCode(is), e, at)
			}
			right++
			for at, ins := range is {
				ops[ins.Op]++
				switch {
				case texts[at] == "-":
					idle++
				case texts[at] != "" && ins.Op == api.INew:
					under++
				case ins.N == 0 && (ins.Op == api.IJump || ins.Op == api.IUnless):
					short++
				}
			}
		}
		for op := api.IPush; op <= api.IUnless; op++ {
			if ops[op] < 20 {
				t.Errorf("the instruction %d came %d times", op, ops[op])
			}
		}
		if right < 2000 || idle < 100 || short < 100 || under < 20 {
			t.Errorf("%d codes of 4000 may be run, with %d instructions that nothing reaches, %d jumps to the next one, %d news with a stack under them", right, idle, short, under)
		}
	}
}

// Values that are made stand alone on the stack at the end.
func TestValuesThatAreMadeAreOfTheirType(t *testing.T) {
	numbers := drill.Numbers(9)
	store := []api.Ins{{Op: api.INew}, {Op: api.IEq}, {Op: api.IUnless}}
	for _, s := range drill.Schemas() {
		fitting := drill.Fitting{Schema: s, Numbers: &numbers}
		for i := range 2000 {
			of := 1 + i%3
			is := slices.Concat(fitting.ValueCode(of, 1+i%4), []api.Ins{fitting.Leaf(of)}, store)
			if _, at, e := code.Verify(s, is...); e != api.OK && (e != api.ErrCode || at != len(is)) {
				t.Fatalf("%s may not be run: %d at %d", drill.ShownCode(is), e, at)
			}
		}
	}
}

func TestCodesAsTexts(t *testing.T) {
	all := `push -5; true; false; bytes "a\x00 b"; load 7; has 0; here; not; neg; add; sub; mul; min; max; lt; le; eq; len; cat; store 1; addto 2; clear 3; new; delete; jump 255; unless 0`
	is := drill.CodeOf(all)
	for at, ins := range is {
		if ins.Op != at+1 {
			t.Errorf("instruction %d is %+v", at, ins)
		}
	}
	if len(is) != api.IUnless || is[0].N != -5 || is[3].S != "a\x00 b" || is[24].N != 255 {
		t.Errorf("CodeOf = %+v", is)
	}
	if got := drill.ShownCode(is); got != all {
		t.Errorf("ShownCode = %s", got)
	}
	if got := drill.CodeOf(""); len(got) != 0 {
		t.Errorf("CodeOf of nothing = %+v", got)
	}
	if got := drill.ShownCode([]api.Ins{{Op: 99, N: 3, S: "x"}, {Op: api.INew, N: 1}, {Op: -1}}); got != `operation 99 3 "x"; new 1; operation -1` {
		t.Errorf("ShownCode = %s", got)
	}
}

func TestWrongTextsOfCodesAreTold(t *testing.T) {
	for _, text := range []string{"nothing", "push x", "bytes x", `bytes "x`, `bytes "x"y`, "new;", ";", "push 1 2", "push 9223372036854775808"} {
		func() {
			defer func() {
				if recover() == nil {
					t.Errorf("CodeOf(%q) took it", text)
				}
			}()
			drill.CodeOf(text)
		}()
	}
}
