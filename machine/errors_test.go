package machine_test

import (
	"bytes"
	"math"
	"slices"
	"testing"

	"arbor/api"
	"arbor/code"
	"arbor/drill"
)

// P13.1, P13.3: a row that is none of the schema: ErrValue, whatever right code is to be run on it, none too; P13.2 likewise.
func TestWrongRows(t *testing.T) {
	for _, s := range drill.Schemas() {
		for _, row := range drill.WrongRows(s) {
			for _, text := range []string{"", "new", "delete", "jump 0", "delete; new", "here; unless 1; delete"} {
				wantError(t, s, drill.CodeOf(text), row, api.ErrValue)
			}
		}
	}
}

// A row of one schema is none of another one, whose types differ.
func TestRowsOfAnotherSchema(t *testing.T) {
	a, b := drill.Schemas()[0], drill.Schemas()[1]
	for _, record := range drill.Records(a) {
		wantError(t, b, nil, api.Row{Here: true, Vals: record}, api.ErrValue)
	}
	wantRun(t, b, nil, api.Row{})
}

// P13.1, P13.3: the errors of Verify come first, the schema's ahead of all, the row's last; with each the rest is zero.
func TestOrderOfErrors(t *testing.T) {
	s := drill.SchemaOf(exampleSchema)
	rows := append(drill.WrongRows(s), drill.Rows(s)...)
	for _, x := range []struct {
		text string
		e    api.Errno
	}{
		{"push 1", api.ErrStack}, {"add", api.ErrStack}, {"true; store 0", api.ErrStack}, {"here; unless 1; push 1; store 0", api.ErrStack},
		{`bytes "a"; push 1; eq; unless 0`, api.ErrStack}, {"load 1; store 3", api.ErrStack},
		{"jump 1", api.ErrJump}, {"true; unless 1", api.ErrJump}, {"jump 255; new", api.ErrJump}, {"jump 1; add", api.OK}, {"add; jump 1", api.ErrJump},
		{"has 0; unless 0", api.ErrOperand}, {"clear 2", api.ErrOperand}, {"load 4; store 0", api.ErrOperand}, {"load 8; store 0", api.ErrOperand},
		{"push 1; addto 3", api.ErrOperand}, {"add 1", api.ErrOperand}, {"jump 256", api.ErrOperand}, {"jump -1", api.ErrOperand},
		{"load -1; store 0", api.ErrOperand}, {"jump 1; clear 0", api.ErrOperand}, {"jump 9; clear 0", api.ErrOperand},
	} {
		is := drill.CodeOf(x.text)
		for _, row := range rows {
			switch {
			case x.e != api.OK:
				wantError(t, s, is, row, x.e)
			case isRow(s, row):
				wantRun(t, s, is, row)
			default:
				wantError(t, s, is, row, api.ErrValue)
			}
		}
		for _, wrong := range drill.WrongSchemas() {
			wantError(t, wrong, is, api.Row{Here: true}, api.ErrSchema)
		}
	}
}

// P13.1, P13.3: instructions that no text means, and too many of them.
func TestWrongInstructions(t *testing.T) {
	s := drill.SchemaOf(exampleSchema)
	for _, op := range []int{math.MinInt, -1, 0, 27, 255, 256, math.MaxInt} {
		wantError(t, s, []api.Ins{{Op: api.INew}, {Op: op}}, api.Row{Here: true}, api.ErrCode)
		wantError(t, s, []api.Ins{{Op: api.IJump, N: 1}, {Op: op}}, api.Row{}, api.ErrCode)
		wantError(t, api.Schema{}, []api.Ins{{Op: op}}, api.Row{Here: true}, api.ErrSchema)
	}
	wantError(t, s, []api.Ins{{Op: api.IBytes, S: "abcdefghijklmnopqrstu"}, {Op: api.IStore, N: 3}}, api.Row{Here: true}, api.ErrOperand)
	wantError(t, s, []api.Ins{{Op: api.INew, S: "x"}}, api.Row{}, api.ErrOperand)
	wantError(t, s, []api.Ins{{Op: api.IJump, N: math.MaxInt64}}, api.Row{}, api.ErrOperand)
	wantError(t, s, []api.Ins{{Op: api.IUnless, N: math.MinInt64}}, api.Row{}, api.ErrOperand)
	wantError(t, s, times(100000, "new"), api.Row{Here: true}, api.ErrCode)
	wantError(t, s, times(96, "push 1"), api.Row{Here: true}, api.ErrCode)
}

// P13.2: a wrong schema ahead of wrong bytes, these ahead of what Verify says, that ahead of a wrong row.
func TestOrderOfErrorsOfBytes(t *testing.T) {
	s := drill.SchemaOf(exampleSchema)
	notes := []struct {
		text string
		e    api.Errno
	}{
		{"\xff", api.ErrCode}, {"\x00", api.ErrCode}, {"\x1b", api.ErrCode}, {"\x01", api.ErrCode}, {"\x01\x80\x00", api.ErrCode},
		{"\x04\x02a", api.ErrCode}, {"\x04\x15abcdefghijklmnopqrstu", api.ErrCode}, {"\x05\x08", api.ErrCode}, {"\x14", api.ErrCode},
		{"\x0a\x00", api.ErrCode}, {"\x19", api.ErrCode}, {"\x17\x00", api.ErrCode},
		{"\x15\x00", api.ErrStack}, {"\x01\x02", api.ErrStack}, {"\x19\x01", api.ErrJump}, {"\x06\x00\x1a\x00", api.ErrOperand}, {"\x05\x07\x14\x00", api.ErrOperand},
		{"", api.ErrValue}, {"\x17", api.ErrValue}, {"\x01\x02\x15\x00", api.ErrValue},
	}
	for _, x := range notes {
		for _, row := range drill.WrongRows(s) {
			wantExecError(t, s, []byte(x.text), row, x.e)
		}
		for _, wrong := range drill.WrongSchemas() {
			wantExecError(t, wrong, []byte(x.text), api.Row{Here: true}, api.ErrSchema)
		}
		if x.e != api.ErrValue {
			wantExecError(t, s, []byte(x.text), api.Row{}, x.e)
		}
	}
	wantExecError(t, s, bytes.Repeat([]byte{0x17}, 97), api.Row{Here: true}, api.ErrCode)
	wantExecError(t, s, bytes.Repeat([]byte{0x17}, 1000000), api.Row{Here: true}, api.ErrCode)
	wantExecError(t, s, bytes.Repeat([]byte{0x17}, 96), api.Row{Here: true}, api.ErrValue)
	wantExecError(t, api.Schema{}, bytes.Repeat([]byte{0x17}, 97), api.Row{Here: true}, api.ErrSchema)
}

// P13.2: of all bytes, short ones whole and long ones by chance: what Decode and then Run say.
func TestExecOfAllBytes(t *testing.T) {
	s := drill.SchemaOf(exampleSchema)
	ran, rows := 0, fewRows(s)
	look := func(b []byte) {
		is, e := code.Decode(b)
		if e == api.OK {
			_, _, e = code.Verify(s, is...)
		}
		for _, row := range rows {
			if e != api.OK {
				wantExecError(t, s, b, row, e)
				continue
			}
			ran++
			wantRun(t, s, is, row)
		}
	}
	all := make([]byte, 256)
	for i := range all {
		all[i] = byte(i)
	}
	for length := range 3 {
		drill.Scripts(all, length, look)
	}
	numbers := drill.Numbers(142)
	for range 20000 {
		b := make([]byte, numbers.Below(9))
		for i := range b {
			b[i] = byte(numbers.Below(28))
		}
		look(b)
	}
	if ran < 1000 {
		t.Errorf("only %d runs", ran)
	}
}

// R1: instructions and values of any form and number: every call ends, with an error or none, and the bounds hold where there is none.
func TestAnythingGoesIn(t *testing.T) {
	numbers := drill.Numbers(143)
	edges := []int64{math.MinInt64, -256, -1, 0, 1, 2, 7, 8, 255, 256, math.MaxInt64}
	texts := []string{"", "x", "abcdefghijklmnopqrst", "abcdefghijklmnopqrstu"}
	for _, s := range drill.Schemas() {
		rows, ran := append(drill.WrongRows(s), slices.Repeat(fewRows(s), 20)...), 0
		for range 20000 {
			is := make([]api.Ins, numbers.Below(6))
			for i := range is {
				is[i] = api.Ins{Op: numbers.Below(29) - 1, N: drill.Pick(&numbers, edges) * int64(numbers.Below(2)), S: texts[max(0, numbers.Below(12)-8)]}
			}
			row := drill.Pick(&numbers, rows)
			_, _, e := code.Verify(s, is...)
			switch {
			case e != api.OK:
				wantError(t, s, is, row, e)
			case !isRow(s, row):
				wantError(t, s, is, row, api.ErrValue)
			default:
				ran++
				wantRun(t, s, is, row)
			}
		}
		if ran < 1000 {
			t.Errorf("only %d runs", ran)
		}
	}
}
