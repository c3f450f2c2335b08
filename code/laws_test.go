package code_test

import (
	"bytes"
	"slices"
	"testing"

	"arbor/api"
	"arbor/code"
	"arbor/drill"
)

// What follows from the promises, by the chapter.

// rightCodes: codes that may be run on the rows of a schema, each handed on with Verify's depth.
func rightCodes(t *testing.T, seed drill.Numbers, tries int, each func(fitting drill.Fitting, is []api.Ins, deep int)) {
	t.Helper()
	for _, s := range drill.Schemas() {
		fitting, right := drill.Fitting{Schema: s, Numbers: &seed}, 0
		for i := range tries {
			is := fitting.Code(2 + i%4)
			if deep, _, e := code.Verify(s, is...); e == api.OK {
				right++
				each(fitting, is, deep)
			}
		}
		if right < tries/2 {
			t.Errorf("only %d of %d codes may be run", right, tries)
		}
	}
}

// Decode of Encode gives the code back, and the bytes of two codes one behind the other are those of both, one behind the other.
func TestBytesOfTwoCodes(t *testing.T) {
	var last []api.Ins
	rightCodes(t, 115, 3000, func(_ drill.Fitting, is []api.Ins, _ int) {
		a, _ := code.Encode(last...)
		b, _ := code.Encode(is...)
		both, e := code.Encode(slices.Concat(last, is)...)
		switch {
		case len(a)+len(b) > api.MaxCode && e != api.ErrCode:
			t.Fatalf("Encode of %d and %d bytes: %d", len(a), len(b), e)
		case len(a)+len(b) <= api.MaxCode && (!bytes.Equal(both, slices.Concat(a, b)) || e != api.OK):
			t.Fatalf("Encode(%s; %s) = % x, %d, want % x % x", shown(last), shown(is), both, e, a, b)
		}
		if back, e := code.Decode(slices.Concat(a, b)); e == api.OK && !slices.Equal(back, slices.Concat(last, is)) {
			t.Fatalf("Decode(% x % x) = %s", a, b, shown(back))
		}
		last = is
	})
}

// Two codes that may be run, one behind the other, may be run, as deep as the deeper one.
func TestOneCodeBehindTheOther(t *testing.T) {
	numbers := drill.Numbers(116)
	for _, s := range drill.Schemas() {
		fitting, right := drill.Fitting{Schema: s, Numbers: &numbers}, 0
		for i := range 4000 {
			a, b := fitting.Code(2+i%3), fitting.Code(2+i%4)
			deepA, _, wrongA := code.Verify(s, a...)
			deepB, _, wrongB := code.Verify(s, b...)
			both := slices.Concat(a, b)
			if _, e := code.Encode(both...); e != api.OK || wrongA != api.OK || wrongB != api.OK {
				continue
			}
			right++
			wantVerify(t, s, both, max(deepA, deepB), 0, api.OK)
			typesA, _ := code.Types(s, a...)
			typesB, _ := code.Types(s, b...)
			if got, _ := code.Types(s, both...); !slices.Equal(got, append(typesA, typesB[1:]...)) {
				t.Fatalf("Types(%s) = %q, want %q and %q", shown(both), got, typesA, typesB)
			}
		}
		if right < 1000 {
			t.Errorf("only %d of 4000 codes may be run", right)
		}
	}
}

// walk: all ways that a run might go from a place on: the most values that stood on its stack, and how many instructions it took at most.
func walk(t *testing.T, s api.Schema, is []api.Ins, texts []string, at int, stack string) (deep, steps int) {
	if texts[at] != stack {
		t.Fatalf("%s: a run comes to place %d with %q, Types says %q", shown(is), at, stack, texts[at])
	}
	if at == len(is) {
		if stack != "" {
			t.Fatalf("%s: a run ends with %q", shown(is), stack)
		}
		return 0, 0
	}
	behind, fits := bookStep(s, is[at], stack)
	if !fits {
		t.Fatalf("%s: a run finds %q at place %d", shown(is), stack, at)
	}
	deep = len(stack)
	for _, next := range bookNext(at, is[at]) {
		further, more := walk(t, s, is, texts, next, behind)
		deep, steps = max(deep, further), max(steps, 1+more)
	}
	return deep, steps
}

// Along every way that a run might go the stack is as Types says, and as deep as Verify says at most: some way is.
func TestEveryWayOfARun(t *testing.T) {
	walked := 0
	rightCodes(t, 117, 3000, func(fitting drill.Fitting, is []api.Ins, deep int) {
		forks := 0
		for _, ins := range is {
			if ins.Op == api.IUnless {
				forks++
			}
		}
		if forks > 8 {
			return
		}
		texts, _ := code.Types(fitting.Schema, is...)
		got, steps := walk(t, fitting.Schema, is, texts, 0, "")
		if got != deep || steps > len(is) {
			t.Fatalf("%s: its runs are up to %d deep and %d steps long, Verify says %d", shown(is), got, steps, deep)
		}
		walked++
	})
	if walked < 2000 {
		t.Errorf("only %d codes were walked", walked)
	}
}

// What stands at a place that nothing reaches does not matter.
func TestWhatNothingReachesDoesNotMatter(t *testing.T) {
	changed := 0
	rightCodes(t, 118, 1500, func(fitting drill.Fitting, is []api.Ins, deep int) {
		s := fitting.Schema
		texts, _ := code.Types(s, is...)
		for at, text := range texts {
			if text != "-" {
				continue
			}
			for _, ins := range instructions(s) {
				other := slices.Clone(is)
				other[at] = ins
				if _, e := code.Encode(other...); e != api.OK || !bookField(s, ins) || ins.Op == api.IJump || ins.Op == api.IUnless {
					continue
				}
				changed++
				wantVerify(t, s, other, deep, 0, api.OK)
				if got, _ := code.Types(s, other...); !slices.Equal(got, texts) {
					t.Fatalf("Types(%s) = %q, want %q", shown(other), got, texts)
				}
			}
		}
	})
	if changed < 1000 {
		t.Errorf("only %d instructions were changed", changed)
	}
}
