package code_test

import (
	"slices"
	"strings"
	"testing"

	"arbor/api"
	"arbor/code"
	"arbor/drill"
)

// instructions: of each operation some whose forms are right: with each field's number, and the one behind the last.
func instructions(s api.Schema) []api.Ins {
	var list []api.Ins
	for op := api.IPush; op <= api.IUnless; op++ {
		list = append(list, api.Ins{Op: op})
		if strings.Contains(bookRows[op].operand, "field") {
			for number := 1; number <= len(s.Fields); number++ {
				list = append(list, api.Ins{Op: op, N: int64(number)})
			}
		}
	}
	return append(list, drill.CodeOf(`push -1; bytes "a"; jump 1; unless 1`)...)
}

// fill: instructions that bring such a stack.
func fill(stack string) []api.Ins {
	var is []api.Ins
	for _, letter := range stack {
		is = append(is, map[rune]api.Ins{'i': {Op: api.IPush}, 'b': {Op: api.ITrue}, 's': {Op: api.IBytes}}[letter])
	}
	return is
}

// drain: instructions that take it away, of a schema with a field of each type.
func drain(s api.Schema, stack string) []api.Ins {
	var is []api.Ins
	for _, letter := range slices.Backward([]rune(stack)) {
		of, _ := drill.TypeOf(letter)
		number := slices.IndexFunc(s.Fields, func(f api.Field) bool { return f.Type == of })
		is = append(is, api.Ins{Op: api.IStore, N: int64(number)})
	}
	return is
}

// stacks: all of up to so many types.
func stacks(length int) []string {
	list := []string{}
	for n := range length + 1 {
		drill.Scripts([]rune("ibs"), n, func(letters []rune) { list = append(list, string(letters)) })
	}
	return list
}

// P11.4, P11.5: every instruction on every stack of up to four values, with what it leaves taken away behind it.
func TestEveryInstructionOnEveryStack(t *testing.T) {
	for _, s := range drill.Schemas() {
		right, wrong := 0, 0
		for _, stack := range stacks(4) {
			for _, ins := range instructions(s) {
				wantLook(t, s, append(fill(stack), ins))
				if !bookField(s, ins) {
					continue
				}
				after, _ := bookStep(s, ins, stack)
				is := slices.Concat(fill(stack), []api.Ins{ins, {Op: api.INew}}, drain(s, after))
				if wantLook(t, s, is) == api.OK {
					right++
				} else {
					wrong++
				}
			}
		}
		if right < 500 || wrong < 500 {
			t.Errorf("%d fit, %d do not", right, wrong)
		}
	}
}

// P11.4: at a stack of nearly MaxStack values what gives one more does not fit, what takes as many as it gives does.
func TestEveryInstructionOnAHighStack(t *testing.T) {
	for _, s := range drill.Schemas() {
		for _, top := range stacks(2) {
			for height := 13; height <= 17; height++ {
				stack := strings.Repeat("s", height-len(top)) + top
				for _, ins := range instructions(s) {
					if !bookField(s, ins) || ins.N > 0 && strings.Contains(bookRows[ins.Op].operand, "255") {
						continue
					}
					after, _ := bookStep(s, ins, stack)
					wantLook(t, s, slices.Concat(fill(stack), []api.Ins{ins}, drain(s, after)))
				}
			}
		}
	}
	s := drill.SchemaOf(exampleSchema)
	for n := 1; n <= 17; n++ {
		is := slices.Concat(times(n, "push 0"), times(n-1, "max"), drill.CodeOf("store 0"))
		if n <= 16 {
			wantVerify(t, s, is, n, 0, api.OK)
		} else {
			wantVerify(t, s, is, 0, 16, api.ErrStack)
		}
	}
	wantVerify(t, s, slices.Concat(times(16, "true"), drill.CodeOf("not; eq; not"), times(15, "unless 0")), 16, 0, api.OK)
	wantVerify(t, s, slices.Concat(times(16, "true"), drill.CodeOf("here")), 0, 16, api.ErrStack)
}

// P11.4, P11.5: every short code over a few instructions: those of which jumps are made, and those of all types.
func TestEveryShortCode(t *testing.T) {
	s := drill.SchemaOf(exampleSchema)
	for _, x := range []struct {
		some   string
		length int
	}{
		{"push 0; true; store 0; unless 0; unless 1; unless 2; unless 3; jump 0; jump 1; jump 2; jump 3; new", 4},
		{"push 0; true; addto 0; unless 1; unless 2; jump 1; jump 2; not", 5},
		{"true; unless 0; unless 1; unless 2; jump 1; jump 2", 6},
		{`push 1; bytes "a"; true; load 0; load 1; load 2; has 2; eq; lt; len; cat; neg; store 0; store 1; store 2; unless 0`, 4},
		{"push 1; add; store 0; load 2; len; le; store 1", 5},
	} {
		right := 0
		for length := range x.length + 1 {
			drill.Scripts(drill.CodeOf(x.some), length, func(is []api.Ins) {
				if wantLook(t, s, is) == api.OK {
					right++
				}
			})
		}
		if right < 15 {
			t.Errorf("only %d codes of %s are right", right, x.some)
		}
	}
}

// P11.4: what is wrong with the form and the field of an instruction is told at its number.
func TestFormsAndFields(t *testing.T) {
	for _, s := range append(drill.Schemas(), drill.SchemaOf("n:int"), drill.SchemaOf("a:bool?,b:bool,c:bool,d:bool,e:bool,f:bool,g:bool,h:bool?")) {
		for _, op := range edgeOps() {
			for _, n := range edgeNumbers() {
				for _, text := range []string{"", "x", strings.Repeat("a", 20), strings.Repeat("a", 21), strings.Repeat("a", 276)} {
					ins := api.Ins{Op: op, N: n, S: text}
					wantLook(t, s, []api.Ins{ins})
					wantLook(t, s, []api.Ins{{Op: api.IJump, N: 1}, ins, {Op: api.INew}})
				}
			}
		}
	}
	s := drill.SchemaOf("n:int,m:int?,on:bool,off:bool?,tag:bytes?")
	for _, x := range []struct {
		code string
		deep int
		e    api.Errno
	}{
		{"has 0; unless 0", 0, api.ErrOperand}, {"has 1; unless 0", 1, api.OK}, {"has 2; unless 0", 0, api.ErrOperand}, {"has 3; unless 0", 1, api.OK}, {"has 4; unless 0", 1, api.OK}, {"has 5; unless 0", 0, api.ErrOperand},
		{"clear 0", 0, api.ErrOperand}, {"clear 1", 0, api.OK}, {"clear 2", 0, api.ErrOperand}, {"clear 3", 0, api.OK}, {"clear 4", 0, api.OK}, {"clear 5", 0, api.ErrOperand},
		{"load 0; store 1", 1, api.OK}, {"load 1; store 0", 1, api.OK}, {"load 2; store 3", 1, api.OK}, {"load 3; store 2", 1, api.OK}, {"load 4; store 4", 1, api.OK}, {"load 5; store 4", 0, api.ErrOperand},
	} {
		wantVerify(t, s, drill.CodeOf(x.code), x.deep, 0, x.e)
	}
	for number, e := range []api.Errno{api.OK, api.OK, api.ErrOperand, api.ErrOperand, api.ErrOperand, api.ErrOperand} {
		at, deep := 1, 0
		if e == api.OK {
			at, deep = 0, 1
		}
		wantVerify(t, s, []api.Ins{{Op: api.IPush, N: 1}, {Op: api.IAddTo, N: int64(number)}}, deep, at, e)
	}
}

// P11.4: a jump leads to the last place at most, wherever it stands and whether a run comes to it or not.
func TestTargets(t *testing.T) {
	s := drill.SchemaOf(exampleSchema)
	for length := 1; length <= 12; length++ {
		for at := range length {
			for _, n := range []int{0, 1, length - at - 2, length - at - 1, length - at, length - at + 1, 255} {
				for _, idle := range []bool{false, true} {
					is := times(length, "new")
					is[at] = api.Ins{Op: api.IJump, N: int64(max(n, 0))}
					if idle && at > 0 {
						is[0] = api.Ins{Op: api.IJump, N: int64(at)}
					}
					wantLook(t, s, is)
				}
			}
		}
	}
	wantVerify(t, s, append(drill.CodeOf("jump 93"), times(93, "new")...), 0, 0, api.OK)
	wantVerify(t, s, append(drill.CodeOf("jump 94"), times(93, "new")...), 0, 0, api.ErrJump)
	wantVerify(t, s, append(times(94, "new"), drill.CodeOf("jump 0")...), 0, 0, api.OK)
	wantVerify(t, s, append(times(94, "new"), drill.CodeOf("jump 1")...), 0, 94, api.ErrJump)
	wantVerify(t, s, drill.CodeOf("true; unless 1"), 0, 1, api.ErrJump)
	wantVerify(t, s, drill.CodeOf("unless 0; unless 255; jump 9"), 0, 1, api.ErrJump)
	wantVerify(t, s, drill.CodeOf("jump 1; jump 2; new"), 0, 1, api.ErrJump)
}

// P11.4: unlike stacks are told at the place where they meet, and what is wrong at a lower place comes ahead.
func TestWaysThatMeet(t *testing.T) {
	s := drill.SchemaOf(exampleSchema)
	for _, x := range []struct {
		code     string
		deep, at int
		e        api.Errno
	}{
		{"here; unless 1; push 1; new; store 0", 0, 3, api.ErrStack},
		{"here; unless 2; push 1; jump 1; push 2; store 0", 1, 0, api.OK},
		{"here; unless 2; push 1; jump 1; true; store 0", 0, 5, api.ErrStack},
		{"here; unless 2; push 1; jump 1; true; new", 0, 5, api.ErrStack},
		{"here; unless 3; push 1; push 1; jump 1; push 2; store 0", 0, 6, api.ErrStack},
		{`true; bytes ""; here; unless 2; push 1; jump 1; push 2; store 0; store 2; unless 0`, 3, 0, api.OK},
		{"push 1; here; unless 1; store 0", 0, 4, api.ErrStack},
		{"here; unless 1; push 1", 0, 3, api.ErrStack},
		{"here; unless 4; push 1; here; unless 1; add; new", 0, 5, api.ErrStack},
		{"here; unless 5; push 1; here; unless 1; new; store 0", 2, 0, api.OK},
		{"here; unless 4; push 1; here; unless 1; new; store 0", 0, 6, api.ErrStack},
		{"push 1; here; unless 5; here; unless 3; new; new; add; new; store 0", 0, 7, api.ErrStack},
		{"push 1; here; unless 5; here; unless 3; store 0; new; jump 1; new; store 0", 0, 9, api.ErrStack},
		{"here; unless 0; here; unless 1; new", 1, 0, api.OK},
		{"push 1; here; unless 1; jump 0; store 0", 2, 0, api.OK},
		{"push 1; jump 1; store 1; store 0", 1, 0, api.OK},
		{"jump 0; jump 0; jump 0", 0, 0, api.OK},
		{"push 1; jump 0", 0, 2, api.ErrStack},
		{"push 1; jump 1; store 0", 0, 3, api.ErrStack},
		{"push 1; unless 0", 0, 1, api.ErrStack},
		{"unless 0", 0, 0, api.ErrStack},
	} {
		wantVerify(t, s, drill.CodeOf(x.code), x.deep, x.at, x.e)
	}
}

// P11.5: what a place that nothing reaches leads to is not reached by it.
func TestIdlePlaces(t *testing.T) {
	s := drill.SchemaOf(exampleSchema)
	for _, x := range []struct {
		code string
		want []string
	}{
		{"", []string{""}},
		{"jump 0", []string{"", ""}},
		{"jump 2; push 1; true", []string{"", "-", "-", ""}},
		{"jump 2; jump 1; true; new", []string{"", "-", "-", "", ""}},
		{"jump 3; jump 1; true; add; new", []string{"", "-", "-", "-", "", ""}},
		{"push 1; jump 3; true; unless 0; store 2; store 0", []string{"", "i", "-", "-", "-", "i", ""}},
		{"here; unless 1; jump 1; jump 2; jump 1; new", []string{"", "b", "", "", "", "-", ""}},
		{"true; bytes \"\"; push 1; store 0; store 2; unless 0", []string{"", "b", "bs", "bsi", "bs", "b", ""}},
	} {
		is := drill.CodeOf(x.code)
		if got, e := code.Types(s, is...); !slices.Equal(got, x.want) || e != api.OK {
			t.Errorf("Types(%s) = %q, %d, want %q", x.code, got, e, x.want)
		}
		wantLook(t, s, is)
	}
}

// P11.4: of several things that are wrong the one that the promise names first is told, whatever stands ahead of it in the code.
func TestOrderOfErrors(t *testing.T) {
	s := drill.SchemaOf(exampleSchema)
	wrongs := [][]api.Ins{
		{}, times(1, "new"), times(97, "new"), {{Op: 99}}, {{Op: api.INew, N: 1}}, {{Op: api.INew, S: "x"}},
		drill.CodeOf("load 3"), drill.CodeOf("has 0"), drill.CodeOf("clear 1"), drill.CodeOf("addto 1"), drill.CodeOf("load 8"),
		times(49, "push 1"), times(9, "push -9223372036854775808"), drill.CodeOf("jump 200"), drill.CodeOf("true; unless 200"), drill.CodeOf("add"), drill.CodeOf("true; store 0"),
	}
	for _, schema := range []api.Schema{s, {}} {
		drill.Scripts(wrongs, 3, func(parts [][]api.Ins) { wantLook(t, schema, slices.Concat(parts...)) })
	}
	for _, x := range []struct {
		is []api.Ins
		at int
		e  api.Errno
	}{
		{append(times(96, "add"), api.Ins{Op: 99}), 97, api.ErrCode},
		{append(times(95, "add"), api.Ins{Op: 99}), 95, api.ErrCode},
		{append(times(95, "jump 200"), api.Ins{Op: api.IAdd, N: 1}), 95, api.ErrOperand},
		{times(95, "jump 200"), 95, api.ErrCode},
		{append(times(3, "add"), drill.CodeOf("jump 1")...), 3, api.ErrJump},
		{times(1<<20, "add"), 1 << 20, api.ErrCode},
	} {
		wantVerify(t, s, x.is, 0, x.at, x.e)
		wantVerify(t, api.Schema{}, x.is, 0, 0, api.ErrSchema)
	}
}

// P11.4, R9: a schema that may not be is told ahead of all else.
func TestWrongSchemas(t *testing.T) {
	for _, s := range drill.WrongSchemas() {
		for _, is := range [][]api.Ins{nil, drill.CodeOf("new"), drill.CodeOf("add"), drill.CodeOf("jump 9"), drill.CodeOf("load 8"), {{Op: 99}}, times(97, "new"), times(49, "push 1")} {
			wantVerify(t, s, is, 0, 0, api.ErrSchema)
		}
	}
}

// P11.4: the bounds of a code are its 96 bytes, whatever they are of.
func TestBoundsOfWhatMayBeRun(t *testing.T) {
	s := drill.SchemaOf(exampleSchema)
	four := strings.TrimSuffix(strings.Repeat(`bytes "01234567890123456789"; store 2; `, 4), "; ")
	for _, x := range []struct {
		is       []api.Ins
		deep, at int
		e        api.Errno
	}{
		{times(96, "new"), 0, 0, api.OK},
		{times(97, "new"), 0, 97, api.ErrCode},
		{drill.CodeOf(four), 1, 0, api.OK},
		{drill.CodeOf(four + "; new"), 0, 9, api.ErrCode},
		{times(24, "push 63; addto 0"), 1, 0, api.OK},
		{times(24, "push 63; store 0")[1:], 0, 0, api.ErrStack},
		{append(times(23, "push 63; addto 0"), drill.CodeOf("push 64; addto 0")...), 0, 48, api.ErrCode},
		{append(times(23, "push 63; addto 0"), drill.CodeOf("push -64; addto 0")...), 1, 0, api.OK},
	} {
		wantVerify(t, s, x.is, x.deep, x.at, x.e)
	}
}

// spoiled: a code of which an instruction is changed, lost, doubled, or changed places with another one.
func spoiled(fitting drill.Fitting, is []api.Ins) []api.Ins {
	numbers := fitting.Numbers
	is = slices.Clone(is)
	at, other := numbers.Below(len(is)), numbers.Below(len(is))
	switch numbers.Below(6) {
	case 0:
		is[at].Op = 1 + numbers.Below(26)
	case 1:
		is[at].N = int64(numbers.Below(9))
	case 2:
		is[at] = drill.Pick(numbers, instructions(fitting.Schema))
	case 3:
		return slices.Delete(is, at, at+1)
	case 4:
		return slices.Insert(is, at, fitting.Leaf(1+numbers.Below(3)))
	default:
		is[at], is[other] = is[other], is[at]
	}
	return is
}

// P11.4, P11.5: long codes, right ones and those that are nearly right.
func TestManyLongCodes(t *testing.T) {
	numbers := drill.Numbers(113)
	for _, s := range drill.Schemas() {
		fitting := drill.Fitting{Schema: s, Numbers: &numbers}
		told := map[api.Errno]int{}
		for i := range 6000 {
			is := fitting.Code(2 + i%4)
			told[wantLook(t, s, is)]++
			for range 4 {
				if len(is) == 0 || len(is) > 120 {
					break
				}
				is = spoiled(fitting, is)
				told[wantLook(t, s, is)]++
			}
		}
		for _, e := range []api.Errno{api.OK, api.ErrCode, api.ErrJump, api.ErrStack, api.ErrOperand} {
			if told[e] < 100 {
				t.Errorf("the answer %d came %d times", e, told[e])
			}
		}
	}
}

// P11.4: any instructions one behind the other, most of which are wrong.
func TestAnyInstructions(t *testing.T) {
	numbers := drill.Numbers(114)
	ops, ns, texts := edgeOps(), edgeNumbers(), edgeTexts()
	for _, s := range drill.Schemas() {
		list := instructions(s)
		for range 50000 {
			is := make([]api.Ins, numbers.Below(8))
			for at := range is {
				is[at] = drill.Pick(&numbers, list)
			}
			if len(is) > 0 && numbers.Below(2) == 0 {
				is[numbers.Below(len(is))] = api.Ins{Op: drill.Pick(&numbers, ops), N: drill.Pick(&numbers, ns), S: drill.Pick(&numbers, texts)}
			}
			wantLook(t, s, is)
		}
	}
}
