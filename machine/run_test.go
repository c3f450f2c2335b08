package machine_test

import (
	"slices"
	"testing"

	"arbor/api"
	"arbor/code"
	"arbor/drill"
	"arbor/machine"
)

// leafOf: the instruction that puts a value onto the stack.
func leafOf(v api.Value) api.Ins {
	switch v.Kind {
	case api.Int:
		return api.Ins{Op: api.IPush, N: v.N}
	case api.Bytes:
		return api.Ins{Op: api.IBytes, S: v.S}
	}
	return api.Ins{Op: api.IFalse - int(v.N)}
}

// storeOf: the instruction that takes a value of a type into the first such field.
func storeOf(s api.Schema, of int) api.Ins {
	number := slices.IndexFunc(s.Fields, func(f api.Field) bool { return f.Type == of })
	return api.Ins{Op: api.IStore, N: int64(number)}
}

func times(n int, text string) []api.Ins {
	return slices.Repeat(drill.CodeOf(text), n)
}

// operation: what it takes, a letter each from the lowest up, and what it gives.
type operation struct {
	op    int
	takes string
	gives rune
}

func operations() []operation {
	return []operation{
		{api.INot, "b", 'b'}, {api.INeg, "i", 'i'}, {api.ILen, "s", 'i'}, {api.ICat, "ss", 's'},
		{api.IAdd, "ii", 'i'}, {api.ISub, "ii", 'i'}, {api.IMul, "ii", 'i'}, {api.IMin, "ii", 'i'}, {api.IMax, "ii", 'i'},
		{api.ILt, "ii", 'b'}, {api.ILt, "ss", 'b'}, {api.ILe, "ii", 'b'}, {api.ILe, "ss", 'b'},
		{api.IEq, "ii", 'b'}, {api.IEq, "bb", 'b'}, {api.IEq, "ss", 'b'},
	}
}

// P13.1: every operation on every choice of values, those at the edges among them; under them stands another value, which it leaves alone.
func TestOperationsOnValues(t *testing.T) {
	for _, s := range drill.Schemas() {
		row := api.Row{Here: true, Vals: drill.Records(s)[0]}
		for _, o := range operations() {
			of, _ := drill.TypeOf(rune(o.takes[0]))
			gives, _ := drill.TypeOf(o.gives)
			drill.Scripts(drill.Values(of), len(o.takes), func(values []api.Value) {
				is := []api.Ins{leafOf(api.Value{Kind: api.Int, N: 77})}
				for _, v := range values {
					is = append(is, leafOf(v))
				}
				is = append(is, api.Ins{Op: o.op}, storeOf(s, gives))
				number := int64(slices.IndexFunc(s.Fields, func(f api.Field) bool { return f.Name == "n" }))
				if gives != api.Int {
					is = append(is, api.Ins{Op: api.IStore, N: number})
				} else {
					is = append(is, api.Ins{Op: api.IAddTo, N: number})
				}
				wantRun(t, s, is, row)
			})
		}
	}
}

// P13.1: every leaf, stored into its field and kept apart from what comes behind.
func TestLeavesOnValues(t *testing.T) {
	for _, s := range drill.Schemas() {
		for _, row := range drill.Rows(s) {
			for number, f := range s.Fields {
				for _, v := range drill.Values(f.Type) {
					store := api.Ins{Op: api.IStore, N: int64(number)}
					wantRun(t, s, []api.Ins{leafOf(v), store}, row)
					wantRun(t, s, []api.Ins{leafOf(v), {Op: api.INew}, store}, row)
				}
			}
		}
	}
}

// fieldCodes: each instruction that names a field or asks for the row, with what it needs.
func fieldCodes(s api.Schema) [][]api.Ins {
	list := [][]api.Ins{{{Op: api.INew}}, {{Op: api.IDelete}}, {{Op: api.IHere}, storeOf(s, api.Bool)}}
	for i, f := range s.Fields {
		number := int64(i)
		list = append(list, []api.Ins{{Op: api.ILoad, N: number}, storeOf(s, f.Type)})
		values := drill.Values(f.Type)
		list = append(list, []api.Ins{leafOf(values[len(values)-1]), {Op: api.IStore, N: number}})
		if f.Type == api.Int {
			list = append(list, []api.Ins{{Op: api.IPush, N: 1<<63 - 1}, {Op: api.IAddTo, N: number}})
			list = append(list, []api.Ins{{Op: api.ILoad, N: number}, {Op: api.IAddTo, N: number}})
		}
		if f.Optional {
			list = append(list, []api.Ins{{Op: api.IClear, N: number}})
			list = append(list, []api.Ins{{Op: api.IHas, N: number}, storeOf(s, api.Bool)})
		}
	}
	return list
}

// P13.1: what names a field does what the table says of it: on every choice of fields that are present, and where there is no record; and in twos, so that each finds what each other left.
func TestFieldsOnRows(t *testing.T) {
	for _, s := range drill.Schemas() {
		for _, row := range drill.Rows(s) {
			drill.Scripts(fieldCodes(s), 2, func(parts [][]api.Ins) {
				wantRun(t, s, parts[0], row)
				wantRun(t, s, slices.Concat(parts...), row)
			})
		}
	}
}

// P13.1: a value that was loaded stays on the stack as it was, whatever becomes of the row meanwhile.
func TestStackIsBesideTheRow(t *testing.T) {
	s := drill.SchemaOf(exampleSchema)
	for _, x := range [][3]string{
		{"load 0; delete; new; store 0", "{n=4}", "{n=4,on=false}"},
		{"load 0; push 9; store 0; store 1", "{n=4}", "{n=9,m=4,on=false}"},
		{"load 3; clear 3; store 3", `{tag="x"}`, `{n=0,on=false,tag="x"}`},
		{"has 3; clear 3; store 2", `{tag="x"}`, "{n=0,on=true}"},
		{"here; delete; new; store 2", "{}", "{n=0,on=true}"},
		{"load 1; push 3; addto 1; store 0", "{n=5}", "{n=0,m=3,on=false}"},
	} {
		if got := drill.ShownRow(s, wantRun(t, s, drill.CodeOf(x[0]), drill.RowOf(s, x[1])).Row); got != x[2] {
			t.Errorf("%s makes of %s: %s, want %s", x[0], x[1], got, x[2])
		}
	}
}

// P13.1 to P13.4: every short code over a few instructions that may be run: those of which jumps are made, and those of all types.
func TestEveryShortCode(t *testing.T) {
	s := drill.SchemaOf(exampleSchema)
	rows := fewRows(s)
	for _, x := range []struct {
		some   string
		length int
	}{
		{"push 1; here; addto 0; unless 0; unless 1; unless 2; unless 3; jump 0; jump 1; jump 2; jump 3; new", 4},
		{"push 1; has 1; addto 1; unless 1; unless 2; jump 1; delete", 5},
		{"here; unless 0; unless 1; unless 2; jump 1; jump 2; delete; new", 5},
		{`push 1; bytes "a"; true; load 0; load 1; load 2; load 3; has 3; eq; lt; len; cat; neg; store 0; store 1; store 2; store 3; unless 0`, 4},
		{"push 1; sub; store 0; load 3; len; le; store 2; clear 3", 5},
	} {
		right := 0
		for length := range x.length + 1 {
			drill.Scripts(drill.CodeOf(x.some), length, func(is []api.Ins) {
				if _, _, e := code.Verify(s, is...); e != api.OK {
					wantError(t, s, is, rows[1], e)
					return
				}
				right++
				for _, row := range rows {
					wantRun(t, s, is, row)
				}
			})
		}
		if right < 15 {
			t.Errorf("only %d codes of %s are right", right, x.some)
		}
	}
}

// P13.1 to P13.4: long codes of all instructions, on rows of all kinds. The stand-in for the machine that other tests play codes with says the same.
func TestLongCodes(t *testing.T) {
	rightCodes(t, 141, 12000, func(fitting drill.Fitting, is []api.Ins) {
		for range 3 {
			row := fitting.Row()
			got := wantRun(t, fitting.Schema, is, row)
			if want := drill.Play(fitting.Schema, is, row); !drill.SameRow(got.Row, want) {
				t.Fatalf("%s on %s: %+v, the stand-in says %+v", drill.ShownCode(is), drill.ShownRow(fitting.Schema, row), got.Row, want)
			}
		}
	})
}

// P13.4: stacks of all heights up to MaxStack, of values of all types, each taken off again.
func TestHighStacks(t *testing.T) {
	s := drill.SchemaOf(exampleSchema)
	row := drill.RowOf(s, `{n=1,m=2,on=true,tag="x"}`)
	for height := 1; height <= api.MaxStack; height++ {
		is := slices.Concat(times(height, "load 0"), times(height-1, "add"), drill.CodeOf("store 0"))
		if got := wantRun(t, s, is, row); got.Deep != height || got.Steps != 2*height || got.Row.Vals[0].N != int64(height) {
			t.Errorf("%d high: %+v", height, got)
		}
		mixed := slices.Repeat(drill.CodeOf(`load 1; load 2; load 3`), 6)[:height]
		is = slices.Clone(mixed)
		for _, ins := range slices.Backward(mixed) {
			is = append(is, api.Ins{Op: api.IStore, N: ins.N})
		}
		if got := wantRun(t, s, is, row); got.Deep != height || !drill.SameRow(got.Row, row) {
			t.Errorf("%d high: %+v", height, got)
		}
	}
	wantError(t, s, slices.Concat(times(17, "load 0"), times(16, "add"), drill.CodeOf("store 0")), row, api.ErrStack)
}

// P13.1: a run may be less deep and shorter than the code might be: only what stood on the stack of this run counts, and only its own steps.
func TestDepthIsThatOfTheRun(t *testing.T) {
	s := drill.SchemaOf(exampleSchema)
	is := drill.CodeOf("here; unless 8; push 1; push 2; push 3; push 4; add; add; add; store 0; new")
	for _, x := range []struct {
		row         string
		steps, deep int
	}{{"{}", 11, 4}, {"none", 3, 1}} {
		if got := wantRun(t, s, is, drill.RowOf(s, x.row)); got.Steps != x.steps || got.Deep != x.deep {
			t.Errorf("on %s: %+v, want %d steps, %d deep", x.row, got, x.steps, x.deep)
		}
	}
	if deep, _, _ := code.Verify(s, is...); deep != 4 {
		t.Errorf("Verify says %d", deep)
	}
}

// P13.1, P13.3: jumps by every number up to the end of the longest codes, to the end itself too, and by none.
func TestJumpsOfAllLengths(t *testing.T) {
	s := drill.SchemaOf(exampleSchema)
	row := drill.RowOf(s, "{}")
	for n := range 94 {
		for _, behind := range [][]api.Ins{nil, drill.CodeOf("clear 1")} {
			if 2+n+2*len(behind) > api.MaxCode {
				continue
			}
			jump := slices.Concat([]api.Ins{{Op: api.IJump, N: int64(n)}}, times(n, "delete"), behind)
			if got := wantRun(t, s, jump, row); got.Steps != 1+len(behind) || !got.Row.Here {
				t.Fatalf("jump %d: %+v", n, got)
			}
			if 3+n+2*len(behind) > api.MaxCode {
				continue
			}
			unless := slices.Concat([]api.Ins{{Op: api.IFalse}, {Op: api.IUnless, N: int64(n)}}, times(n, "delete"), behind)
			if got := wantRun(t, s, unless, row); got.Steps != 2+len(behind) || !got.Row.Here {
				t.Fatalf("unless %d: %+v", n, got)
			}
			unless[0].Op = api.ITrue
			if got := wantRun(t, s, unless, row); got.Steps != len(unless) || got.Row.Here != (n == 0) {
				t.Fatalf("unless %d: %+v", n, got)
			}
		}
	}
}

// P13.1, P13.4: the longest codes run to their end: as many steps as they have instructions.
func TestLongestCodes(t *testing.T) {
	s := drill.SchemaOf(exampleSchema)
	for _, x := range []struct {
		text        string
		n           int
		end         string
		steps, deep int
	}{
		{"new", 96, "{n=0,on=false}", 96, 0},
		{"new; delete", 48, "none", 96, 0},
		{"jump 0", 48, "none", 48, 0},
		{"true; unless 0", 32, "none", 64, 1},
		{"new; push 1; addto 0", 19, "{n=19,on=false}", 57, 1},
	} {
		got := wantRun(t, s, times(x.n, x.text), api.Row{})
		if end := drill.ShownRow(s, got.Row); end != x.end || got.Steps != x.steps || got.Deep != x.deep {
			t.Errorf("%d times %s: %s, %d, %d, want %s, %d, %d", x.n, x.text, end, got.Steps, got.Deep, x.end, x.steps, x.deep)
		}
	}
	wantError(t, s, times(97, "new"), api.Row{}, api.ErrCode)
	wantError(t, s, times(49, "jump 0"), api.Row{}, api.ErrCode)
}

// P13.1: the code without instructions gives the row back, of every schema.
func TestNoInstructions(t *testing.T) {
	for _, s := range append(drill.Schemas(), drill.SchemaOf("a:bytes"), drill.SchemaOf("a:bool?,b:bool,c:bool,d:bool,e:bool,f:bool,g:bool,h:bool?")) {
		for _, row := range drill.Rows(s) {
			o, e := machine.Run(s, nil, row)
			if e != api.OK || !sameOutcome(o, api.Outcome{Row: row}) {
				t.Fatalf("Run of nothing on %+v = %+v, %d", row, o, e)
			}
			wantRun(t, s, nil, row)
		}
	}
}

// P13.3: the letters of a stack that holds all types, step by step.
func TestTypesOfATrace(t *testing.T) {
	s := drill.SchemaOf(exampleSchema)
	is := drill.CodeOf(`push 1; here; bytes ""; load 3; load 1; load 2; has 3; eq; store 2; store 1; cat; len; push 0; eq; eq; store 2; store 0`)
	want := []string{"", "i", "ib", "ibs", "ibss", "ibssi", "ibssib", "ibssibb", "ibssib", "ibssi", "ibss", "ibs", "ibi", "ibii", "ibb", "ib", "i"}
	for _, row := range drill.Rows(s) {
		steps, e := machine.Trace(s, is, row)
		if e != api.OK || len(steps) != len(want) {
			t.Fatalf("Trace = %+v, %d", steps, e)
		}
		for at, step := range steps {
			if step != (api.Step{At: at, Types: want[at]}) {
				t.Errorf("step %d is %+v, want %q", at, step, want[at])
			}
		}
	}
}
