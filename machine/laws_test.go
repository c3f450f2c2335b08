package machine_test

import (
	"slices"
	"testing"

	"arbor/api"
	"arbor/code"
	"arbor/drill"
	"arbor/lower"
	"arbor/machine"
	"arbor/meaning"
	"arbor/typing"
)

// What follows from the promises, by the chapter.

// A run of two codes that are laid one behind the other is a run of the first, and then one of the second on what came out.
func TestOneCodeBehindTheOther(t *testing.T) {
	var last []api.Ins
	both := 0
	rightCodes(t, 144, 8000, func(fitting drill.Fitting, is []api.Ins) {
		s, row, whole := fitting.Schema, fitting.Row(), slices.Concat(last, is)
		if _, _, e := code.Verify(s, last...); e != api.OK {
			last = nil // it was one of the other schema
			return
		}
		if _, _, e := code.Verify(s, whole...); e == api.OK {
			both++
			wantJoined(t, s, last, is, row)
		}
		last = is
	})
	if both < 3000 {
		t.Errorf("only %d pairs may be run", both)
	}
}

func wantJoined(t *testing.T, s api.Schema, a, b []api.Ins, row api.Row) {
	t.Helper()
	whole := slices.Concat(a, b)
	first, _ := machine.Run(s, a, row)
	second, e := machine.Run(s, b, first.Row)
	want := api.Outcome{Row: second.Row, Steps: first.Steps + second.Steps, Deep: max(first.Deep, second.Deep)}
	if got, f := machine.Run(s, whole, row); e != api.OK || f != api.OK || !sameOutcome(got, want) {
		t.Fatalf("Run(%s | %s) on %s = %+v, %d, want %+v", drill.ShownCode(a), drill.ShownCode(b), drill.ShownRow(s, row), got, f, want)
	}
	steps, _ := machine.Trace(s, a, row)
	behind, _ := machine.Trace(s, b, first.Row)
	for _, step := range behind {
		steps = append(steps, api.Step{At: len(a) + step.At, Types: step.Types})
	}
	if got, _ := machine.Trace(s, whole, row); !slices.Equal(got, steps) {
		t.Fatalf("Trace(%s | %s) on %s = %+v, want %+v", drill.ShownCode(a), drill.ShownCode(b), drill.ShownRow(s, row), got, steps)
	}
}

// An instruction that a run does not come to may be changed for another one.
func TestWhatARunDoesNotComeToDoesNotMatter(t *testing.T) {
	others := drill.CodeOf(`push 9; true; bytes "z"; load 0; here; not; neg; add; eq; cat; store 0; store 2; clear 1; new; delete; jump 0; jump 1; unless 0; unless 1`)
	changed := 0
	rightCodes(t, 145, 1500, func(fitting drill.Fitting, is []api.Ins) {
		s, row := fitting.Schema, fitting.Row()
		want, _ := machine.Run(s, is, row)
		steps, _ := machine.Trace(s, is, row)
		for at := range is {
			if slices.ContainsFunc(steps, func(step api.Step) bool { return step.At == at }) {
				continue
			}
			for _, ins := range others {
				other := slices.Clone(is)
				other[at] = ins
				if _, _, e := code.Verify(s, other...); e != api.OK {
					continue
				}
				changed++
				got, _ := machine.Run(s, other, row)
				again, _ := machine.Trace(s, other, row)
				if !sameOutcome(got, want) || !slices.Equal(again, steps) {
					t.Fatalf("%s on %s: %+v, %+v; with %s at %d: %+v, %+v", drill.ShownCode(is), drill.ShownRow(s, row), want, steps, drill.ShownCode([]api.Ins{ins}), at, got, again)
				}
			}
		}
	})
	if changed < 5000 {
		t.Errorf("only %d instructions were changed", changed)
	}
}

// W1: what a source is compiled to is run to what the program means.
func TestCompiledThenRun(t *testing.T) {
	numbers := drill.Numbers(146)
	for _, s := range drill.Schemas() {
		fitting, ran := drill.Fitting{Schema: s, Numbers: &numbers}, 0
		for i := range 6000 {
			p := fitting.Program(2 + i%4)
			b, e, _ := lower.Compile(s, drill.Shown(p))
			if e != api.OK {
				continue
			}
			ran++
			for range 4 {
				wantMeaning(t, s, p, b, fitting.Row())
			}
		}
		if ran < 2000 {
			t.Errorf("only %d programs could be compiled", ran)
		}
	}
}

func wantMeaning(t *testing.T, s api.Schema, p []api.Stmt, b []byte, row api.Row) {
	t.Helper()
	want, _ := meaning.Run(s, p, row)
	got, e := machine.Exec(s, b, row)
	if e != api.OK || !drill.SameRow(got, want) {
		t.Fatalf("%s on %s: %+v, %d, it means %+v", drill.Shown(p), drill.ShownRow(s, row), got, e, want)
	}
	is, _ := code.Decode(b)
	wantRun(t, s, is, row)
}

// W1: likewise the plain code of every statement of a few, and their folded code.
func TestPlainThenRun(t *testing.T) {
	s := drill.SchemaOf(exampleSchema)
	rows := drill.Rows(s)
	for _, src := range []string{
		"", "new", "delete", "clear m", "clear tag", "n = 1", "m = m", "m = n", "n = m ?? 7", "tag = tag", `tag = cat(tag ?? "", "y")`,
		"n += 1", "m += -1", "n min= 3", "m min= 3", "n max= 3", "m max= 3", "on = has m and here", "on = has tag or not on",
		`on = (tag ?? "b") > "a"`, `on = (tag ?? "b") >= "b"`, "on = n != 0", "on = on == false", "n = pick(on, n + 1, -n)", `n = len(tag ?? "")`,
		"n = min(n, 2) * max(m ?? 1, -3) - n", "if on { delete } else { new; on = true }", "if n < 1 { if has m { n = 1 } } else { clear m }",
	} {
		p := drill.ProgramOf(src)
		if e, _ := typing.Check(s, p); e != api.OK {
			t.Fatalf("%s: %d", src, e)
		}
		for _, compile := range []func(api.Schema, []api.Stmt) ([]api.Ins, api.Errno){lower.Plain, lower.Lower} {
			is, e := compile(s, p)
			if e != api.OK {
				t.Fatalf("%s: %d", src, e)
			}
			b, _ := code.Encode(is...)
			for _, row := range rows {
				wantMeaning(t, s, p, b, row)
			}
		}
	}
}
