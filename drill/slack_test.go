package drill_test

import (
	"testing"

	"arbor/api"
	"arbor/code"
	"arbor/drill"
)

// The size of a code is the number of its bytes; and it is told of those that are too long, too.
func TestCodeSize(t *testing.T) {
	numbers := drill.Numbers(12)
	for _, s := range drill.Schemas() {
		fitting := drill.Fitting{Schema: s, Numbers: &numbers}
		for i := range 2000 {
			is := fitting.Code(2 + i%4)
			if b, e := code.Encode(is...); e == api.OK && drill.CodeSize(is) != len(b) || e != api.OK && drill.CodeSize(is) <= api.MaxCode {
				t.Fatalf("CodeSize(%s) = %d, it has %d bytes", drill.ShownCode(is), drill.CodeSize(is), len(b))
			}
		}
	}
	for _, v := range drill.Values(api.Int) {
		is := []api.Ins{{Op: api.IPush, N: v.N}}
		if b, _ := code.Encode(is...); drill.CodeSize(is) != len(b) {
			t.Errorf("CodeSize of push %d = %d, it has %d bytes", v.N, drill.CodeSize(is), len(b))
		}
	}
}

func TestJumpsTo(t *testing.T) {
	is := drill.CodeOf("jump 1; new; here; unless 2; new; delete")
	for place := range 8 {
		if got, want := drill.JumpsTo(is, place), place == 2 || place == 6; got != want {
			t.Errorf("a jump goes to %d: %v", place, got)
		}
	}
	if !drill.JumpsTo(is, 0, 6) || drill.JumpsTo(is, 0, 1, 3) || drill.JumpsTo(is) {
		t.Error("of several places none or one too many is told")
	}
}

// What is slack is told, what looks like it and is none is not.
func TestSlack(t *testing.T) {
	s := drill.SchemaOf("n:int,m:int?,on:bool")
	for _, text := range []string{
		"jump 1; new; delete", "jump 0", "new; jump 0; new", "here; not; not; store 2", "load 0; neg; neg; store 0",
		"push 1; addto 0; push 2; addto 0", "has 1; unless 1; new; push 1; addto 1; push 2; addto 1", "here; not; not; not; store 2",
	} {
		if got := drill.Slack(s, drill.CodeOf(text)); got == "" || got == "it may not be run" {
			t.Errorf("%s: %q", text, got)
		}
	}
	for _, text := range []string{
		"", "new", "here; unless 0", "here; not; store 2", "push 1; addto 0", "push 0; addto 1", "push 1; addto 0; push 2; addto 1", "push 1; store 0; push 2; addto 0",
		"here; here; unless 1; not; not; store 2", "has 1; unless 2; push 1; addto 0; push 2; addto 0", "has 1; unless 1; jump 1; new",
		"push 7; has 1; unless 2; addto 0; push 1; addto 0; new; push 2; addto 0", "load 0; neg; push 1; neg; add; store 0",
	} {
		if got := drill.Slack(s, drill.CodeOf(text)); got != "" {
			t.Errorf("%s: %q", text, got)
		}
	}
	if got := drill.Slack(s, drill.CodeOf("push 1")); got != "it may not be run" {
		t.Errorf("of what may not be run: %q", got)
	}
}
