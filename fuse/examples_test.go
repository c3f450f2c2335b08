package fuse_test

import (
	"math"
	"slices"
	"testing"

	"arbor/api"
	"arbor/drill"
	"arbor/fuse"
)

// The chapter's examples, one by one.

const exampleSchema = "n:int,m:int?,tag:bytes?"

// exampleRows: rows of the examples' schema, of each kind.
func exampleRows() []api.Row {
	s := drill.SchemaOf(exampleSchema)
	rows := []api.Row{{}}
	for _, text := range []string{"{}", "{n=5,m=0}", `{n=-7,tag=""}`, `{n=9223372036854775807,m=-9223372036854775808,tag="abcdefghijklmnopqrst"}`} {
		rows = append(rows, drill.RowOf(s, text))
	}
	return rows
}

// Example 1.
func TestExamplesOfConcat(t *testing.T) {
	s := drill.SchemaOf(exampleSchema)
	for _, x := range [][3]string{
		{"push 5; addto 0", "push 7; addto 0", "push 12; addto 0"},
		{"push 9223372036854775807; addto 0", "push 1; addto 0", "push -9223372036854775808; addto 0"},
		{"push 5; addto 1", "push -5; addto 1", "push 0; addto 1"},
		{"", "push 5; addto 0", "push 5; addto 0"},
		{"push 5; addto 0", "", "push 5; addto 0"},
		{"", "", ""},
	} {
		got, e := fuse.Concat(s, drill.CodeOf(x[0]), drill.CodeOf(x[1]))
		if drill.ShownCode(got) != x[2] || e != api.OK {
			t.Errorf("Concat(%s | %s) = %s, %d, want %s", x[0], x[1], drill.ShownCode(got), e, x[2])
		}
		wantConcat(t, s, drill.CodeOf(x[0]), drill.CodeOf(x[1]), exampleRows())
	}
}

// Example 2: two upserts are one within their joint size, and within no less.
func TestExamplesOfJointSizes(t *testing.T) {
	s := drill.SchemaOf(exampleSchema)
	for _, x := range []struct {
		a, b string
		size int
	}{
		{"push 5; addto 0", "push 7; addto 0", 4},
		{"push 5; addto 0", "push 7; addto 1", 8},
		{"here; unless 2; push 1; addto 0", "push 7; addto 0", 11},
		{"clear 2; push 5; addto 0", "push 7; addto 0; clear 2", 8},
	} {
		a, b := drill.CodeOf(x.a), drill.CodeOf(x.b)
		if got := bookJoint(a, b); got != x.size {
			t.Errorf("%s | %s: the book says %d, want %d", x.a, x.b, got, x.size)
		}
		ms := messagesOf(s, "upsert k "+x.a, "upsert k "+x.b)
		for most := range 97 {
			got, _ := wantFused(t, s, most, ms, exampleRows())
			if one := len(got) == 1; one != (most >= x.size) {
				t.Errorf("Pair(%d, %s | %s) = %s", most, x.a, x.b, drill.ShownMessages(s, got))
			}
		}
	}
}

// Example 3.
func TestExamplesOfConcatErrors(t *testing.T) {
	s := drill.SchemaOf(exampleSchema)
	add := drill.CodeOf("push 1; addto 0")
	sixty := append(slices.Repeat(drill.CodeOf("clear 2"), 28), add...)
	forty := append(slices.Clone(add), slices.Repeat(drill.CodeOf("clear 2"), 18)...)
	got, met := wantConcat(t, s, sixty, forty, exampleRows())
	if !met || drill.CodeSize(sixty) != 60 || drill.CodeSize(forty) != 40 || drill.CodeSize(got) != 96 {
		t.Errorf("%d and %d bytes that meet: %d, %v", drill.CodeSize(sixty), drill.CodeSize(forty), drill.CodeSize(got), met)
	}
	wantNoCode(t, s, forty, sixty, api.ErrBig)
	wantNoCode(t, s, drill.CodeOf("push 1"), drill.CodeOf("push 5; addto 0"), api.ErrStack)
}

// Examples 4 and 5.
func TestExamplesOfPair(t *testing.T) {
	s := drill.SchemaOf(exampleSchema)
	for _, x := range []struct {
		most  int
		texts [2]string
		want  []string
	}{
		{96, [2]string{"put k {n=1}", "put k {n=2}"}, []string{"put k {n=2}"}},
		{96, [2]string{"upsert k push 5; addto 0", "delete k"}, []string{"delete k"}},
		{96, [2]string{"put k {n=1}", "upsert k push 5; addto 0"}, []string{"put k {n=6}"}},
		{96, [2]string{"delete k", "upsert k push 5; addto 0"}, []string{"delete k"}},
		{96, [2]string{"delete k", "upsert k new; push 5; addto 0"}, []string{"put k {n=5}"}},
		{96, [2]string{"put k {n=1}", "upsert k delete"}, []string{"delete k"}},
		{3, [2]string{"upsert k push 5; addto 0", "upsert k push 7; addto 0"}, []string{"upsert k push 5; addto 0", "upsert k push 7; addto 0"}},
		{4, [2]string{"upsert k push 5; addto 0", "upsert k push 7; addto 0"}, []string{"upsert k push 12; addto 0"}},
	} {
		ms, want := messagesOf(s, x.texts[:]...), messagesOf(s, x.want...)
		if got, e := fuse.Pair(s, x.most, ms[0], ms[1]); e != api.OK || !slices.EqualFunc(got, want, drill.SameMessage) {
			t.Errorf("Pair(%d, %q) = %s, %d, want %q", x.most, x.texts, drill.ShownMessages(s, got), e, x.want)
		}
		wantFused(t, s, x.most, ms, exampleRows())
	}
	ms := messagesOf(s, "upsert a push 5; addto 0", "upsert b push 7; addto 0")
	for most, want := range map[int]api.Errno{-1: api.ErrArg, 97: api.ErrArg, 96: api.ErrMixed, math.MinInt: api.ErrArg} {
		if got, e := fuse.Pair(s, most, ms[0], ms[1]); e != want || len(got) != 0 {
			t.Errorf("Pair(%d) of keys a and b = %s, %d, want %d", most, drill.ShownMessages(s, got), e, want)
		}
	}
}

// Examples 6 to 8.
func TestExamplesOfFuse(t *testing.T) {
	s := drill.SchemaOf(exampleSchema)
	long := "upsert k " + drill.ShownCode(slices.Repeat(drill.CodeOf("clear 2"), 48))
	for _, x := range []struct {
		most        int
		texts, want []string
	}{
		{96, []string{"upsert k push 1; addto 0", "upsert k push 2; addto 0", "upsert k push 3; addto 0"}, []string{"upsert k push 6; addto 0"}},
		{96, []string{"upsert k push 1; addto 0", "put k {n=9}", "upsert k push 2; addto 0"}, []string{"put k {n=11}"}},
		{96, []string{"put k {n=9}", "put k {n=8}", "delete k"}, []string{"delete k"}},
		{96, nil, nil},
		{0, []string{long}, []string{long}},
	} {
		got, _ := wantFused(t, s, x.most, messagesOf(s, x.texts...), exampleRows())
		if want := messagesOf(s, x.want...); !slices.EqualFunc(got, want, drill.SameMessage) {
			t.Errorf("Fuse(%d, %q) = %s, want %q", x.most, x.texts, drill.ShownMessages(s, got), x.want)
		}
	}
	ms := messagesOf(s, "upsert k push 1; addto 0", "upsert k push 1; addto 1", "upsert k clear 2", "upsert k push 1; addto 0")
	got, _ := wantFused(t, s, 8, ms, exampleRows())
	if len(got) != 2 || bookOutcomes(s, 8, ms)[drill.ShownMessages(s, got)] == 0 {
		t.Errorf("Fuse within 8 = %s", drill.ShownMessages(s, got))
	}
}

// Example 9.
func TestExampleOfFuseErrors(t *testing.T) {
	s := drill.SchemaOf(exampleSchema)
	ms := []api.Message{{Kind: api.MPut, Key: "k", Vals: make([]api.Value, 2)}, {Kind: api.MDelete, Key: "j"}}
	if got, e := fuse.Fuse(s, 96, ms...); e != api.ErrValue || len(got) != 0 {
		t.Errorf("Fuse of a wrong record and another key = %s, %d", drill.ShownMessages(s, got), e)
	}
	wantFused(t, s, 96, ms, nil)
}
