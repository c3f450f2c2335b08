package fuse_test

import (
	"slices"
	"strings"
	"testing"

	"arbor/api"
	"arbor/code"
	"arbor/drill"
)

// P15.1: sums of every two numbers at the edges, to a field that is always there and to one that may be absent, to one field or to two.
func TestConcatOfCounterAdds(t *testing.T) {
	s := drill.SchemaOf(exampleSchema)
	for _, x := range drill.Values(api.Int) {
		for _, y := range drill.Values(api.Int) {
			for _, fields := range [][2]int64{{0, 0}, {1, 1}, {0, 1}, {1, 0}} {
				a := []api.Ins{{Op: api.IPush, N: x.N}, {Op: api.IAddTo, N: fields[0]}}
				b := []api.Ins{{Op: api.IPush, N: y.N}, {Op: api.IAddTo, N: fields[1]}}
				if got, _ := wantConcat(t, s, a, b, exampleRows()); fields[0] == fields[1] && (len(got) != 2 || got[0].N != x.N+y.N) {
					t.Errorf("Concat(%s | %s) = %s", drill.ShownCode(a), drill.ShownCode(b), drill.ShownCode(got))
				}
			}
		}
	}
}

// P15.1: every two short codes out of some instructions that may be run.
func TestConcatOfEveryTwoShortCodes(t *testing.T) {
	s := drill.SchemaOf(exampleSchema)
	rows := exampleRows()
	for _, text := range []string{
		"push 1; push -3; addto 0; addto 1; jump 1; jump 2; has 1; unless 1; unless 2",
		"push 1; addto 0; jump 0; jump 1; jump 3; here; unless 2; unless 4",
		"here; not; unless 0; unless 1; jump 1; new; delete",
		"load 0; load 1; neg; store 1; store 0; has 1; unless 1; unless 2; addto 0; new",
	} {
		var codes [][]api.Ins
		for length := range 5 {
			drill.Scripts(drill.CodeOf(text), length, func(is []api.Ins) {
				if _, _, e := code.Verify(s, is...); e == api.OK {
					codes = append(codes, slices.Clone(is))
				}
			})
		}
		met := 0
		for _, a := range codes {
			for _, b := range codes {
				wantConcat(t, s, a, b, rows)
				if bookMeet(a, b) {
					met++
				}
			}
		}
		if len(codes) < 60 {
			t.Errorf("%s: only %d codes may be run", text, len(codes))
		}
		if met == 0 && strings.Contains(text, "push") {
			t.Errorf("%s: no two codes met", text)
		}
	}
}

// P15.1, P15.2: where jumps of the first code go decides whether two codes meet; whether a run comes by does not. Within their joint size they are one, within a byte less two.
func TestJumpsAtTheSeam(t *testing.T) {
	s := drill.SchemaOf(exampleSchema)
	for _, x := range []struct {
		a, b string
		meet bool
	}{
		{"push 1; addto 0", "push 2; addto 0", true},
		{"push 1; addto 0", "push 2; addto 0; push 3; addto 0", true},
		{"push 1; addto 0; push 2; addto 0", "push 3; addto 0", true},
		{"push 1; addto 0; push 2; addto 0", "push 3; addto 0; push 4; addto 0", true},
		{"has 1; unless 1; clear 1; push 1; addto 0", "push 2; addto 0", true},
		{"has 1; unless 2; push 5; store 0; push 1; addto 0", "push 2; addto 0; delete", true},
		{"jump 1; delete; push 1; addto 0", "push 2; addto 0", true},
		{"push 1; addto 1", "push 2; addto 1; has 1; unless 1; delete", true},
		{"push 1; addto 0", "push 2; addto 0; jump 0; jump 0", true},
		{"has 1; unless 2; push 1; addto 0", "push 2; addto 0", false},
		{"has 1; unless 3; delete; push 1; addto 0", "push 2; addto 0", false},
		{"push 7; has 1; unless 2; addto 0; push 1; addto 0", "push 2; addto 0", false},
		{"push 7; has 1; unless 3; addto 0; clear 1; push 1; addto 0", "push 2; addto 0", false},
		{"jump 1; jump 2; push 1; addto 0", "push 2; addto 0", false},
		{"jump 1; jump 1; push 1; addto 0", "push 2; addto 0", false},
		{"jump 2; push 1; addto 0", "push 2; addto 0", false},
		{"push 1; addto 0", "push 2; addto 1", false},
		{"push 1; addto 0", "push 2; store 0", false},
		{"push 1; store 0", "push 2; addto 0", false},
		{"load 0; addto 0", "push 2; addto 0", false},
		{"push 1; addto 0", "load 0; addto 0", false},
		{"push 1; neg; addto 0", "push 2; addto 0", false},
		{"push 1; addto 0; jump 0", "push 2; addto 0", false},
		{"push 1; addto 0", "jump 0; push 2; addto 0", false},
		{"push 1; addto 0; new", "push 2; addto 0", false},
		{"push 1; addto 0", "push 2; neg; addto 0", false},
		{"push 1; addto 0", "push 2; push 3; addto 0; addto 0", false},
		{"", "push 2; addto 0", false},
		{"push 1; addto 0", "", false},
		{"new", "push 2; addto 0", false},
		{"jump 0", "", false},
		{"", "here; not; not; unless 0", false},
	} {
		a, b := drill.CodeOf(x.a), drill.CodeOf(x.b)
		wantConcat(t, s, a, b, exampleRows())
		size := drill.CodeSize(a) + drill.CodeSize(b)
		if x.meet {
			size -= 4
		}
		ms := messagesOf(s, "upsert k "+x.a, "upsert k "+x.b)
		for most, want := range map[int]int{size: 1, size - 1: 2, size + 1: 1, 96: 1} {
			if got, e := wantFused(t, s, most, ms, exampleRows()); e != api.OK || len(got) != want {
				t.Errorf("Pair(%d, %s | %s) = %s, %d, want %d", most, x.a, x.b, drill.ShownMessages(s, got), e, want)
			}
		}
	}
}

// P15.1: joint sizes at the bound, by codes that meet and by such that do not; with slack, which counts, and without.
func TestConcatAtTheBound(t *testing.T) {
	s := drill.SchemaOf(exampleSchema)
	taken := map[int]int{}
	for _, filling := range []string{"new", "jump 0", "clear 1", "here; unless 0", `bytes "abc"; store 2`} {
		for _, seam := range [][2]string{{"push 1; addto 0", "push 2; addto 0"}, {"push 1; addto 0", "push 2; addto 1"}, {"new", "delete"}, {"push 63; addto 1", "push 1; addto 1"}, {"push 9223372036854775807; addto 1", "push -9223372036854775807; addto 1"}} {
			for share := range 8 {
				for more := range 3 {
					a := slices.Concat(fillingOf(filling, 12*share), slices.Repeat(drill.CodeOf("new"), more), drill.CodeOf(seam[0]))
					for size := range 9 {
						b := slices.Concat(drill.CodeOf(seam[1]), fillingOf(filling, 88-12*share), slices.Repeat(drill.CodeOf("new"), size))
						if drill.CodeSize(a) > 96 || drill.CodeSize(b) > 96 {
							continue
						}
						_, ok := wantConcat(t, s, a, b, exampleRows()[:3])
						if ok {
							taken[bookJoint(a, b)]++
						} else {
							taken[-bookJoint(a, b)]++
						}
					}
				}
			}
		}
	}
	for _, size := range []int{90, 93, 95, 96, -97, -98, -100} {
		if taken[size] < 10 {
			t.Errorf("of the size %d (refused, if below 0) came %d", size, taken[size])
		}
	}
}

// fillingOf: a code again and again, up to so many bytes, and then news.
func fillingOf(text string, size int) []api.Ins {
	is := drill.CodeOf(text)
	is = slices.Repeat(is, size/drill.CodeSize(is))
	return append(is, slices.Repeat(drill.CodeOf("new"), size-drill.CodeSize(is))...)
}

// P15.1: codes of all kinds, many of which meet.
func TestConcatOfLongCodes(t *testing.T) {
	numbers := drill.Numbers(173)
	for _, s := range drill.Schemas() {
		fitting, base := drill.Fitting{Schema: s, Numbers: &numbers}, drill.Fitting{Schema: s, Numbers: &numbers}.Rows(0)
		field := int64(slices.IndexFunc(s.Fields, func(f api.Field) bool { return f.Name == "n" }))
		add := func() []api.Ins {
			if numbers.Below(2) == 0 {
				return nil
			}
			return []api.Ins{{Op: api.IPush, N: fitting.Value(api.Int).N}, {Op: api.IAddTo, N: field}}
		}
		right, big, met := 0, 0, 0
		for i := range 6000 {
			a, b := append(fitting.Code(2+i%4), add()...), append(add(), fitting.Code(2+i/4%4)...)
			_, _, e := code.Verify(s, a...)
			if _, _, f := code.Verify(s, b...); e != api.OK || f != api.OK {
				continue
			}
			if bookMeet(a, b) {
				met++
			}
			if _, ok := wantConcat(t, s, a, b, append(base, fitting.Row(), fitting.Row())); ok {
				right++
			} else {
				big++
			}
		}
		if right < 2000 || big < 300 || met < 200 {
			t.Errorf("%d were taken, %d too big, %d met", right, big, met)
		}
	}
}

// P15.1: the schema's error, then that of the first code, then that of the second, then that they are too big.
func TestConcatErrors(t *testing.T) {
	s := drill.SchemaOf(exampleSchema)
	wrong := []drill.Wrong[[]api.Ins]{
		{Part: []api.Ins{{Op: 99}}, Errno: api.ErrCode}, {Part: make([]api.Ins, 97), Errno: api.ErrCode}, {Part: make([]api.Ins, 1<<20), Errno: api.ErrCode}, {Part: slices.Repeat(drill.CodeOf("new"), 97), Errno: api.ErrCode},
		{Part: drill.CodeOf("push 1"), Errno: api.ErrStack}, {Part: drill.CodeOf("addto 0"), Errno: api.ErrStack}, {Part: drill.CodeOf("push 1; addto 2"), Errno: api.ErrOperand},
		{Part: drill.CodeOf("push 1; addto 3"), Errno: api.ErrOperand}, {Part: drill.CodeOf("clear 0"), Errno: api.ErrOperand}, {Part: []api.Ins{{Op: api.INew, N: 1}}, Errno: api.ErrOperand},
		{Part: drill.CodeOf("jump 1"), Errno: api.ErrJump}, {Part: drill.CodeOf("new; jump 255"), Errno: api.ErrJump},
	}
	right := [][]api.Ins{nil, drill.CodeOf("push 1; addto 0"), slices.Repeat(drill.CodeOf("new"), 96)}
	for _, w := range wrong {
		for _, is := range right {
			wantNoCode(t, s, w.Part, is, w.Errno)
			wantNoCode(t, s, is, w.Part, w.Errno)
			wantNoCode(t, api.Schema{}, is, w.Part, api.ErrSchema)
		}
		for _, other := range wrong {
			wantNoCode(t, s, w.Part, other.Part, w.Errno)
			wantNoCode(t, api.Schema{}, w.Part, other.Part, api.ErrSchema)
		}
	}
	for _, none := range drill.WrongSchemas() {
		for _, is := range right {
			wantNoCode(t, none, is, is, api.ErrSchema)
		}
	}
	// A jump out of the first code does not become right by what stands behind it, nor a stack that is left over.
	wantNoCode(t, s, drill.CodeOf("jump 1"), drill.CodeOf("new"), api.ErrJump)
	wantNoCode(t, s, drill.CodeOf("push 1"), drill.CodeOf("addto 0"), api.ErrStack)
	wantNoCode(t, s, right[2], drill.CodeOf("new"), api.ErrBig)
	wantNoCode(t, s, right[2], right[2], api.ErrBig)
}

// P15.1: which code may be run hangs on the schema.
func TestConcatOfAnotherSchema(t *testing.T) {
	a, b := drill.SchemaOf("n:int,m:int?"), drill.SchemaOf("n:bytes?,m:int")
	first, second := drill.CodeOf("push 1; addto 1"), drill.CodeOf("push 2; addto 1; clear 0")
	for _, s := range []api.Schema{a, b} {
		wantConcat(t, s, first, first, drill.Rows(s))
	}
	wantNoCode(t, a, first, second, api.ErrOperand)
	wantConcat(t, b, first, second, drill.Rows(b))
	wantNoCode(t, b, drill.CodeOf("push 1; store 0"), second, api.ErrStack)
}
