package code_test

import (
	"bytes"
	"slices"
	"testing"

	"arbor/api"
	"arbor/code"
	"arbor/drill"
)

var spare = api.Ins{Op: 77, N: 77, S: "spare"}

// someCodes: right ones and wrong ones, of a schema.
func someCodes(fitting drill.Fitting, each func(is []api.Ins)) {
	for i := range 1000 {
		is := fitting.Code(2 + i%4)
		each(is)
		if len(is) > 0 {
			each(spoiled(fitting, is))
		}
	}
}

// P11.6, R5: codes, bytes and schemas that are handed in are not changed, nor is the spare room of their lists.
func TestArgumentsAreNotChanged(t *testing.T) {
	numbers := drill.Numbers(119)
	for _, s := range drill.Schemas() {
		fields := append(slices.Clone(s.Fields), api.Field{Name: "spare"})
		given := api.Schema{Fields: fields[:len(s.Fields)]}
		someCodes(drill.Fitting{Schema: s, Numbers: &numbers}, func(is []api.Ins) {
			in := drill.Roomy(is, spare)
			b, _ := code.Encode(in...)
			code.List(in...)
			code.Verify(given, in...)
			code.Types(given, in...)
			if !drill.AsItWas(in, is, spare) {
				t.Fatalf("a code was changed: %s, it was %s", shown(in[:len(in)+1]), shown(is))
			}
			if !slices.Equal(given.Fields, s.Fields) || fields[len(s.Fields)] != (api.Field{Name: "spare"}) {
				t.Fatalf("a schema was changed: %+v, it was %+v", fields, s.Fields)
			}
			raw := append(slices.Clone(b), 0x77)
			code.Decode(raw[:len(b)])
			if !bytes.Equal(raw[:len(b)], b) || raw[len(b)] != 0x77 {
				t.Fatalf("bytes were changed: % x, they were % x", raw, b)
			}
		})
	}
}

// P11.6, R5: answers are new memory: what is done to one is seen in no other, and what is done to an argument in no answer.
func TestAnswersShareNothing(t *testing.T) {
	numbers := drill.Numbers(120)
	for _, s := range drill.Schemas() {
		someCodes(drill.Fitting{Schema: s, Numbers: &numbers}, func(is []api.Ins) {
			want, e := bookEncode(is)
			if e != api.OK {
				return
			}
			in := drill.Roomy(is, spare)
			first, _ := code.Encode(in...)
			second, _ := code.Encode(in...)
			raw := slices.Clone(want)
			one, _ := code.Decode(raw)
			other, _ := code.Decode(raw)
			if drill.Shares(first, second) || drill.Shares(one, other) || drill.Shares(one, in) || drill.Shares(first, raw) {
				t.Fatalf("%s: two lists share memory", shown(is))
			}
			drill.Overwrite(in, spare)
			drill.Overwrite(second, 0x77)
			drill.Overwrite(raw, 0x77)
			drill.Overwrite(other, spare)
			if !bytes.Equal(first, want) || !slices.Equal(one, is) {
				t.Fatalf("%s: what was done to one list is seen in another: % x, %s", shown(is), first, shown(one))
			}
			wantEncode(t, is)
		})
	}
}

// P11.6: likewise the texts of Types.
func TestTypesShareNothing(t *testing.T) {
	rightCodes(t, 121, 1000, func(fitting drill.Fitting, is []api.Ins, _ int) {
		s := fitting.Schema
		fields := slices.Clone(s.Fields)
		first, _ := code.Types(api.Schema{Fields: fields}, is...)
		second, _ := code.Types(api.Schema{Fields: fields}, is...)
		if drill.Shares(first, second) {
			t.Fatalf("%s: two lists share memory", shown(is))
		}
		drill.Overwrite(second, "spare")
		drill.Overwrite(fields, api.Field{Name: "spare"})
		if want, _, _, _ := bookLook(s, is); !slices.Equal(first, want) {
			t.Fatalf("%s: what was done to one list is seen in another: %q", shown(is), first)
		}
		wantLook(t, s, is)
	})
}

// R6: an answer hangs on its own arguments alone, whatever was asked before, and refused.
func TestCallsKnowNothingOfOneAnother(t *testing.T) {
	ints, texts := drill.SchemaOf("n:int,m:int?"), drill.SchemaOf("n:bytes?,m:bytes")
	is := drill.CodeOf("load 0; store 1; clear 1")
	for range 3 {
		wantVerify(t, ints, is, 1, 0, api.OK)
		wantVerify(t, texts, is, 0, 2, api.ErrOperand)
		wantVerify(t, texts, drill.CodeOf("load 0; addto 0"), 0, 1, api.ErrOperand)
		wantVerify(t, ints, drill.CodeOf("load 0; addto 0"), 1, 0, api.OK)
		wantVerify(t, api.Schema{}, is, 0, 0, api.ErrSchema)
		wantVerify(t, ints, drill.CodeOf("push 1"), 0, 1, api.ErrStack)
		wantEncode(t, is)
		wantEncode(t, times(97, "new"))
		wantDecode(t, []byte{5, 0})
		wantDecode(t, []byte{5})
		wantList(t, is)
	}
}

// R4: a list that is nil and one without elements are the same.
func TestEmptyListsAreNone(t *testing.T) {
	s := drill.SchemaOf(exampleSchema)
	for _, none := range [][]api.Ins{nil, {}, make([]api.Ins, 0, 4), drill.CodeOf("push 1")[:0]} {
		wantEncode(t, none)
		wantList(t, none)
		wantVerify(t, s, none, 0, 0, api.OK)
		wantVerify(t, api.Schema{}, none, 0, 0, api.ErrSchema)
	}
	for _, none := range [][]byte{nil, {}, make([]byte, 0, 4), []byte("new")[:0]} {
		wantDecode(t, none)
	}
	if texts, e := code.Types(s); !slices.Equal(texts, []string{""}) || e != api.OK {
		t.Errorf("Types of nothing = %q, %d", texts, e)
	}
}
