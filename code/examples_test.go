package code_test

import (
	"bytes"
	"encoding/hex"
	"slices"
	"strings"
	"testing"

	"arbor/api"
	"arbor/code"
	"arbor/drill"
)

// The chapter's examples, line by line.

const exampleSchema = "n:int,on:bool,tag:bytes?"

func fromHex(t *testing.T, text string) []byte {
	t.Helper()
	b, err := hex.DecodeString(strings.ReplaceAll(text, " ", ""))
	if err != nil {
		t.Fatal(err)
	}
	return b
}

func TestExamplesOfCodes(t *testing.T) {
	s := drill.SchemaOf(exampleSchema)
	for _, x := range []struct {
		code, bytes string
		deep, at    int
		e           api.Errno
	}{
		{"", "", 0, 0, api.OK},
		{"push 1; addto 0", "01 02 15 00", 1, 0, api.OK},
		{"push -1; store 0", "01 01 14 00", 1, 0, api.OK},
		{"push 64; store 1", "01 80 01 14 01", 0, 1, api.ErrStack},
		{`bytes "ab"; store 2`, "04 02 61 62 14 02", 1, 0, api.OK},
		{"has 0; unless 0", "06 00 1a 00", 0, 0, api.ErrOperand},
		{"load 3; store 0", "05 03 14 00", 0, 0, api.ErrOperand},
		{"has 2; unless 2; push 1; addto 0", "06 02 1a 02 01 02 15 00", 1, 0, api.OK},
		{"here; unless 2; push 1; jump 1; push 2; store 0", "07 1a 02 01 02 19 01 01 04 14 00", 1, 0, api.OK},
		{"here; unless 1; push 1; store 0", "07 1a 01 01 02 14 00", 0, 3, api.ErrStack},
		{"push 1", "01 02", 0, 1, api.ErrStack},
		{"jump 1; add; new", "19 01 0a 17", 0, 0, api.OK},
		{"jump 3; new", "19 03 17", 0, 0, api.ErrJump},
		{"true; true; eq; unless 0", "02 02 11 1a 00", 2, 0, api.OK},
	} {
		is, want := drill.CodeOf(x.code), fromHex(t, x.bytes)
		if b, e := code.Encode(is...); !bytes.Equal(b, want) || e != api.OK {
			t.Errorf("Encode(%s) = % x, %d, want %s", x.code, b, e, x.bytes)
		}
		if got, e := code.Decode(want); !slices.Equal(got, is) || e != api.OK {
			t.Errorf("Decode(%s) = %s, %d, want %s", x.bytes, shown(got), e, x.code)
		}
		wantVerify(t, s, is, x.deep, x.at, x.e)
		wantEncode(t, is)
		wantDecode(t, want)
		wantList(t, is)
	}
}

func TestExampleOfManyPushes(t *testing.T) {
	s := drill.SchemaOf(exampleSchema)
	is := slices.Concat(times(17, "push 0"), times(16, "add"), drill.CodeOf("store 0"))
	if b, e := code.Encode(is...); len(b) != 34+16+2 || e != api.OK {
		t.Errorf("%d bytes, %d", len(b), e)
	}
	wantVerify(t, s, is, 0, 16, api.ErrStack)
}

func TestExamplesOfTypes(t *testing.T) {
	s := drill.SchemaOf(exampleSchema)
	for _, x := range []struct {
		code string
		want []string
	}{
		{"has 2; unless 2; push 1; addto 0", []string{"", "b", "", "i", ""}},
		{"here; unless 2; push 1; jump 1; push 2; store 0", []string{"", "b", "", "i", "", "i", ""}},
		{"jump 1; add; new", []string{"", "-", "", ""}},
	} {
		if got, e := code.Types(s, drill.CodeOf(x.code)...); !slices.Equal(got, x.want) || e != api.OK {
			t.Errorf("Types(%s) = %q, %d, want %q", x.code, got, e, x.want)
		}
	}
}

func TestExampleOfList(t *testing.T) {
	want := "0 has 2\n1 unless 4\n2 push -5\n3 addto 0\n4 bytes \"x\"\n5 store 2\n"
	if got, e := code.List(drill.CodeOf(`has 2; unless 2; push -5; addto 0; bytes "x"; store 2`)...); got != want || e != api.OK {
		t.Errorf("List = %q, %d, want %q", got, e, want)
	}
}

func TestExamplesOfErrors(t *testing.T) {
	for _, x := range []string{"01 80 00", "1b", "04 02 61", "05 08"} {
		if is, e := code.Decode(fromHex(t, x)); len(is) != 0 || e != api.ErrCode {
			t.Errorf("Decode(%s) = %s, %d", x, shown(is), e)
		}
	}
	for _, x := range []struct {
		is []api.Ins
		e  api.Errno
	}{
		{drill.CodeOf("load 8"), api.ErrOperand},
		{drill.CodeOf("add 1"), api.ErrOperand},
		{[]api.Ins{{Op: 27}}, api.ErrCode},
		{times(97, "new"), api.ErrCode},
	} {
		if b, e := code.Encode(x.is...); len(b) != 0 || e != x.e {
			t.Errorf("Encode(%s) = % x, %d, want %d", shown(x.is), b, e, x.e)
		}
	}
	if b, e := code.Encode(times(96, "new")...); !bytes.Equal(b, bytes.Repeat([]byte{0x17}, 96)) || e != api.OK {
		t.Errorf("Encode of 96 times new = % x, %d", b, e)
	}
}
