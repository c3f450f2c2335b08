package typing_test

import (
	"slices"
	"testing"

	"arbor/api"
	"arbor/drill"
	"arbor/typing"
)

// R5: what is handed in is not changed, nor is the spare room of its lists.
func TestArgumentsAreNotChanged(t *testing.T) {
	numbers := drill.Numbers(95)
	for _, s := range drill.Schemas() {
		fitting := drill.Fitting{Schema: s, Numbers: &numbers}
		fields := append(slices.Clone(s.Fields), api.Field{Name: "spare"})
		given := api.Schema{Fields: fields[:len(s.Fields)]}
		for i := range 500 {
			p := fitting.Program(4)
			if exprs, _ := drill.Parts(p); i%2 == 0 && len(exprs) > 0 {
				fitting.Spoil(drill.Pick(&numbers, exprs))
			}
			copied := drill.Copied(p)
			typing.Check(given, copied)
			typing.Fields(given, copied)
			for _, st := range copied {
				for _, e := range st.Exprs {
					typing.Type(given, e)
				}
			}
			if !drill.Same(copied, p) || !drill.Untouched(copied) {
				t.Fatalf("a program was changed: %+v, it was %+v", copied, p)
			}
			if !slices.Equal(given.Fields, s.Fields) || fields[len(s.Fields)] != (api.Field{Name: "spare"}) {
				t.Fatalf("a schema was changed: %+v, it was %+v", fields, s.Fields)
			}
		}
	}
}

// R5: no two lists of names share memory, in one answer or in two, spare room too.
func TestAnswersShareNothing(t *testing.T) {
	s := drill.SchemaOf(exampleSchema)
	p := drill.ProgramOf("n += m ?? 1; clear tag; on = has tag")
	reads, writes, _ := typing.Fields(s, p)
	otherReads, otherWrites, _ := typing.Fields(s, p)
	seen := map[*string]int{}
	for _, list := range [][]string{reads, writes, otherReads, otherWrites} {
		whole := list[:cap(list)]
		for i := range whole {
			seen[&whole[i]]++
			if seen[&whole[i]] > 1 {
				t.Errorf("two lists share the place of %q", whole[i])
			}
		}
	}
	for _, list := range [][]string{reads, writes} {
		for i := range list[:cap(list)] {
			list[:cap(list)][i] = "gone"
		}
	}
	if !slices.Equal(otherReads, []string{"n", "m", "tag"}) || !slices.Equal(otherWrites, []string{"n", "on", "tag"}) {
		t.Errorf("what was done to one answer is seen in another: %v, %v", otherReads, otherWrites)
	}
	wantFields(t, s, p, otherReads, otherWrites, api.OK)
}

// R6: an answer hangs on its own schema alone, whatever was asked before, and refused.
func TestCallsKnowNothingOfOneAnother(t *testing.T) {
	ints, bytes := drill.SchemaOf("n:int,m:int?"), drill.SchemaOf("m:bytes,n:bytes?")
	for range 3 {
		wantType(t, ints, drill.Field("n"), api.Int, false, api.OK)
		wantType(t, bytes, drill.Field("n"), api.Bytes, true, api.OK)
		wantType(t, api.Schema{}, drill.Field("n"), 0, false, api.ErrSchema)
		wantCheck(t, ints, drill.ProgramOf("n += m ?? 1"), api.OK, 0)
		wantCheck(t, bytes, drill.ProgramOf("n += m ?? 1"), api.ErrOptional, 0)
		wantFields(t, ints, drill.ProgramOf("m = n"), []string{"n"}, []string{"m"}, api.OK)
		wantFields(t, bytes, drill.ProgramOf("n = m"), []string{"m"}, []string{"n"}, api.OK)
		wantFields(t, bytes, drill.ProgramOf("m = n"), nil, nil, api.ErrOptional)
	}
}

// R4: a list that is nil and one without elements are the same.
func TestEmptyListsAreNone(t *testing.T) {
	s := drill.SchemaOf(exampleSchema)
	bare := api.Expr{Op: api.EHere, Kids: []api.Expr{}}
	wantType(t, s, bare, api.Bool, false, api.OK)
	for _, p := range [][]api.Stmt{
		nil,
		{},
		{{Op: api.SNew, Exprs: []api.Expr{}, Then: []api.Stmt{}, Else: []api.Stmt{}}},
		{drill.Choice(bare, []api.Stmt{}, nil), drill.Choice(bare, nil, []api.Stmt{})},
	} {
		wantCheck(t, s, p, api.OK, 0)
		wantFields(t, s, p, nil, nil, api.OK)
	}
}
