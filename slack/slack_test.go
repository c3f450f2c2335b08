package slack_test

import (
	"slices"
	"testing"

	"arbor/api"
	"arbor/code"
	"arbor/drill"
	"arbor/slack"
)

// What a code does without its slack, and that none is left, the tests of lower hold by Peephole; here stands what it does not promise.

const schema = "n:int,m:int?,on:bool,tag:bytes?"

// What is no slack stays as it is, though something shorter would do the same.
func TestWhatIsNoSlackStays(t *testing.T) {
	for _, text := range []string{
		"", "push 0; addto 0", "push 0; addto 1", "push 12; addto 0", "load 0; store 0", "here; unless 0", "new; new", "delete; delete",
		"push 1; addto 0; push 2; addto 1; push 3; addto 0", "has 1; unless 3; load 1; store 1; jump 1; clear 1", "true; unless 1; new",
	} {
		if got := drill.ShownCode(slack.Removed(drill.SchemaOf(schema), drill.CodeOf(text))); got != text {
			t.Errorf("Removed(%s) = %s", text, got)
		}
	}
	numbers := drill.Numbers(171)
	for _, s := range drill.Schemas() {
		fitting, tight := drill.Fitting{Schema: s, Numbers: &numbers}, 0
		for i := range 3000 {
			is := fitting.Code(2 + i%3)
			if drill.Slack(s, is) != "" {
				continue
			}
			tight++
			if got := slack.Removed(s, is); !slices.Equal(got, is) {
				t.Fatalf("Removed(%s) = %s", drill.ShownCode(is), drill.ShownCode(got))
			}
		}
		if tight < 500 {
			t.Errorf("only %d codes had no slack", tight)
		}
	}
}

func TestSlackIsRemoved(t *testing.T) {
	for _, x := range [][2]string{
		{"jump 1; new; delete", "delete"},
		{"load 2; not; not; unless 0", "load 2; unless 0"},
		{"push 1; addto 0; push 2; addto 0", "push 3; addto 0"},
		{"push 1; addto 1; push -1; addto 1", "push 0; addto 1"},
		{"here; unless 5; push 1; addto 0; push 2; addto 0; jump 0; new", "here; unless 2; push 3; addto 0; new"},
		{"jump 0; jump 0", ""},
	} {
		if got := drill.ShownCode(slack.Removed(drill.SchemaOf(schema), drill.CodeOf(x[0]))); got != x[1] {
			t.Errorf("Removed(%s) = %s, want %s", x[0], got, x[1])
		}
	}
}

// Two sums become one at the place that is asked for, and nowhere else.
func TestSumsAreJoinedAtAPlace(t *testing.T) {
	for _, x := range []struct {
		at        int
		code, end string
	}{
		{0, "push 1; addto 0; push 2; addto 0", "push 3; addto 0"},
		{0, "push 9223372036854775807; addto 0; push 1; addto 0", "push -9223372036854775808; addto 0"},
		{0, "push 1; addto 0; push 2; addto 0; push 4; addto 0", "push 3; addto 0; push 4; addto 0"},
		{2, "push 1; addto 0; push 2; addto 0; push 4; addto 0", "push 1; addto 0; push 6; addto 0"},
		{1, "new; push 1; addto 1; push 2; addto 1; jump 0", "new; push 3; addto 1; jump 0"},
		{0, "push 1; addto 0; push 2; addto 0; here; unless 1; new", "push 3; addto 0; here; unless 1; new"},
		{3, "here; unless 1; new; push 1; addto 0; push 2; addto 0", "here; unless 1; new; push 3; addto 0"},
		{2, "here; unless 5; push 1; addto 0; push 2; addto 0; new", "here; unless 3; push 3; addto 0; new"},
	} {
		if got := drill.ShownCode(slack.Joined(drill.CodeOf(x.code), x.at)); got != x.end {
			t.Errorf("Joined(%s, %d) = %s, want %s", x.code, x.at, got, x.end)
		}
	}
	for _, text := range []string{
		"", "new", "push 1; addto 0; push 2", "push 1; addto 0; push 2; addto 1", "push 1; store 0; push 2; addto 0", "push 1; addto 0; push 2; store 0", "load 0; addto 0; push 2; addto 0", "push 1; addto 0; load 0; addto 0",
		"has 1; unless 2; push 1; addto 0; push 2; addto 0", "push 7; has 1; unless 2; addto 0; push 1; addto 0; push 2; addto 0",
		"push 7; has 1; unless 4; addto 0; push 1; addto 0; push 2; addto 0",
		"here; not; not; unless 0", "jump 0; jump 1; new; delete",
	} {
		for at := -3; at < 9; at++ {
			if got := drill.ShownCode(slack.Joined(drill.CodeOf(text), at)); got != text {
				t.Errorf("Joined(%s, %d) = %s", text, at, got)
			}
		}
	}
}

// Codes too long to be run are joined all the same.
func TestLongCodesAreJoined(t *testing.T) {
	sums := slices.Repeat(drill.CodeOf("push 1; addto 0"), 90)
	want := slices.Concat(sums[:100], drill.CodeOf("push 2; addto 0"), sums[104:])
	if got := slack.Joined(sums, 100); !slices.Equal(got, want) {
		t.Errorf("of %d instructions came %s", len(sums), drill.ShownCode(got))
	}
}

// A code that is handed in is neither changed nor handed out.
func TestCodesShareNothing(t *testing.T) {
	spare := api.Ins{Op: 77, N: 77, S: "spare"}
	numbers := drill.Numbers(172)
	for _, s := range drill.Schemas() {
		fitting := drill.Fitting{Schema: s, Numbers: &numbers}
		for i := range 1000 {
			is := slices.Concat(fitting.Code(1+i%3), drill.CodeOf("push 1; addto 3; push 2; addto 3"))
			if _, _, e := code.Verify(s, is...); e == api.ErrOperand {
				is = fitting.Code(1 + i%3)
			}
			if _, _, e := code.Verify(s, is...); e != api.OK {
				continue
			}
			in := drill.Roomy(is, spare)
			for _, got := range [][]api.Ins{slack.Removed(s, in), slack.Joined(in, len(in)-4), slack.Joined(in, 0)} {
				if drill.Shares(got, in) || !drill.AsItWas(in, is, spare) {
					t.Fatalf("%s: a code was changed or handed out", drill.ShownCode(is))
				}
			}
		}
	}
}
