package code_test

import (
	"math"
	"slices"
	"strings"
	"testing"

	"arbor/api"
	"arbor/code"
	"arbor/drill"
)

// edgeNumbers: at the edges of fields, jumps, groups and bytes, and those whose lowest byte would do.
func edgeNumbers() []int64 {
	list := []int64{0, 1, 2, 7, 8, 9, 20, 21, 127, 128, 254, 255, 256, 257, 1 << 16, 1 << 32, 1<<32 + 1, 1 << 56, math.MaxInt64, math.MinInt64}
	for group := 6; group < 63; group += 7 {
		list = append(list, 1<<group-1, 1<<group)
	}
	for _, n := range slices.Clone(list) {
		list = append(list, -n, -n-1)
	}
	return list
}

// edgeTexts: empty, short, as long as may be, too long, and as long as a byte's count would let pass.
func edgeTexts() []string {
	return []string{"", "x", "\x00", "\xff\x17", strings.Repeat("a", 20), strings.Repeat("a", 21), strings.Repeat("a", 256), strings.Repeat("a", 276), strings.Repeat("a", 1<<20)}
}

func edgeOps() []int {
	list := []int{math.MinInt, -257, -256, -1, 1 << 8, 1<<8 + api.INew, 1 << 32, 1<<32 + api.INew, math.MaxInt}
	for op := range 32 {
		list = append(list, op)
	}
	return list
}

// P11.1, P11.2, P11.3: every operation with every operand at the edges, alone and between others.
func TestEveryInstructionByItself(t *testing.T) {
	right := 0
	for _, op := range edgeOps() {
		for _, n := range edgeNumbers() {
			for _, text := range edgeTexts() {
				ins := api.Ins{Op: op, N: n, S: text}
				for _, is := range [][]api.Ins{{ins}, {{Op: api.INew}, ins, {Op: api.IPush, N: -300}}} {
					wantEncode(t, is)
					wantList(t, is)
				}
				if bookForm(ins) == api.OK {
					right++
				}
			}
		}
	}
	if right < 200 {
		t.Errorf("only %d of them are right", right)
	}
}

// P11.1: what is told is what is wrong with the first instruction that is.
func TestTheFirstWrongFormIsTold(t *testing.T) {
	some := []api.Ins{
		{Op: api.INew}, {Op: api.IPush, N: -1}, {Op: api.IBytes, S: "ab"}, {Op: api.IJump, N: 255},
		{}, {Op: 27}, {Op: -1, N: 1, S: "x"},
		{Op: api.IAdd, N: 1}, {Op: api.ILoad, N: 8}, {Op: api.IPush, S: "x"}, {Op: api.IBytes, S: strings.Repeat("x", 21)}, {Op: api.IUnless, N: 256},
	}
	drill.Scripts(some, 3, func(is []api.Ins) {
		wantEncode(t, is)
		wantList(t, is)
	})
}

// P11.1: the number of instructions is looked at ahead of their forms, that of bytes behind them.
func TestBoundsOfACode(t *testing.T) {
	wrongOperand, noOperation := api.Ins{Op: api.INew, N: 1}, api.Ins{Op: 99}
	for _, x := range []struct {
		is []api.Ins
		e  api.Errno
	}{
		{times(96, "new"), api.OK},
		{times(97, "new"), api.ErrCode},
		{times(1<<20, "new"), api.ErrCode},
		{append(times(95, "new"), wrongOperand), api.ErrOperand},
		{append(times(96, "new"), wrongOperand), api.ErrCode},
		{slices.Repeat([]api.Ins{wrongOperand}, 97), api.ErrCode},
		{slices.Repeat([]api.Ins{wrongOperand}, 1<<20), api.ErrCode},
		{slices.Repeat([]api.Ins{noOperation, wrongOperand}, 48), api.ErrCode},
		{slices.Repeat([]api.Ins{wrongOperand, noOperation}, 48), api.ErrOperand},
		{times(48, "push 63"), api.OK},
		{times(49, "push 63"), api.ErrCode},
		{append(times(47, "push 63"), drill.CodeOf("push 64")...), api.ErrCode},
		{append(times(46, "push 63"), drill.CodeOf("push 64; new")...), api.OK},
		{append(times(96, "jump 0")[:95], wrongOperand), api.ErrOperand},
		{append(times(95, "jump 0"), noOperation), api.ErrCode},
		{append(times(47, "load 7"), drill.CodeOf("new; new")...), api.OK},
		{append(times(47, "load 7"), drill.CodeOf("new; new; new")...), api.ErrCode},
		{append(times(4, `bytes "01234567890123456789"`), drill.CodeOf("has 0; clear 0; store 0; unless 0")...), api.OK},
		{append(times(4, `bytes "01234567890123456789"`), drill.CodeOf("has 0; clear 0; store 0; unless 0; new")...), api.ErrCode},
		{times(8, "push -9223372036854775808"), api.OK},
		{times(9, "push 9223372036854775807"), api.ErrCode},
		{times(96, `bytes "01234567890123456789"`), api.ErrCode},
	} {
		if _, e := code.Encode(x.is...); e != x.e {
			t.Errorf("Encode(%s): %d, want %d", shown(x.is), e, x.e)
		}
		wantEncode(t, x.is)
		wantList(t, x.is)
	}
}

// P11.2: every one and two bytes, and every four out of those at the edges.
func TestDecodeOfEveryShortBytes(t *testing.T) {
	wantDecode(t, nil)
	for c := range 256 {
		wantDecode(t, []byte{byte(c)})
	}
	for c := range 1 << 16 {
		wantDecode(t, []byte{byte(c), byte(c >> 8)})
	}
	edges := []byte{0, 1, 2, 4, 5, 7, 8, 19, 20, 21, 22, 23, 25, 26, 27, 127, 128, 129, 255}
	for _, length := range []int{3, 4} {
		drill.Scripts(edges, length, func(b []byte) { wantDecode(t, b) })
	}
}

// P11.2: a push in up to twelve groups, each last one of every kind.
func TestDecodeOfPushes(t *testing.T) {
	for groups := range 13 {
		for _, group := range []byte{128, 129, 254, 255} {
			b := append([]byte{api.IPush}, slices.Repeat([]byte{group}, groups)...)
			wantDecode(t, b)
			for last := range 256 {
				wantDecode(t, append(slices.Clone(b), byte(last)))
				wantDecode(t, append(slices.Clone(b), byte(last), api.INew))
			}
		}
	}
	for _, n := range edgeNumbers() {
		wantDecode(t, append([]byte{api.IPush}, bookInt(n)...))
		needless := append([]byte{api.IPush}, bookInt(n)...)
		needless[len(needless)-1] |= 128
		wantDecode(t, append(needless, 0))
		if is, e := code.Decode(append(needless, 0)); len(is) != 0 || e != api.ErrCode {
			t.Errorf("Decode of %d with a needless group = %s, %d", n, shown(is), e)
		}
	}
}

// P11.2: bytes of every length, too few and too many of them.
func TestDecodeOfBytes(t *testing.T) {
	for length := range 256 {
		for there := range 30 {
			b := append([]byte{api.IBytes, byte(length)}, slices.Repeat([]byte{api.INew}, there)...)
			wantDecode(t, b)
		}
	}
	for _, op := range []byte{api.ILoad, api.IHas, api.IStore, api.IAddTo, api.IClear, api.IJump, api.IUnless} {
		for n := range 256 {
			wantDecode(t, []byte{op, byte(n)})
			wantDecode(t, []byte{api.INew, op, byte(n), op})
		}
	}
}

// P11.2: the number of bytes has a bound.
func TestDecodeOfManyBytes(t *testing.T) {
	for _, length := range []int{94, 95, 96, 97, 98, 192, 1 << 24} {
		for _, piece := range []string{"\x17", "\x05\x00", "\x01\xff\x01", "\x04\x00", "\x80"} {
			b := []byte(strings.Repeat(piece, length/len(piece)+1)[:length])
			is, e := code.Decode(b)
			if length > 96 && (len(is) != 0 || e != api.ErrCode) {
				t.Errorf("Decode of %d bytes = %s, %d", length, shown(is), e)
			}
			if length <= 192 {
				wantDecode(t, b)
			}
		}
	}
}

// P11.1, P11.2: codes there and back, and what becomes of their bytes when some are changed, lost or doubled.
func TestBytesOfManyCodes(t *testing.T) {
	numbers := drill.Numbers(111)
	right := 0
	for _, s := range drill.Schemas() {
		fitting := drill.Fitting{Schema: s, Numbers: &numbers}
		for i := range 3000 {
			is := fitting.Code(2 + i%4)
			wantEncode(t, is)
			wantList(t, is)
			b, e := code.Encode(is...)
			if e != api.OK || len(b) == 0 {
				continue
			}
			for range 8 {
				at := numbers.Below(len(b))
				other := slices.Clone(b)
				other[at] = byte(numbers.Below(256))
				wantDecode(t, other)
				wantDecode(t, slices.Delete(slices.Clone(b), at, at+1))
				wantDecode(t, slices.Insert(slices.Clone(b), at, byte(numbers.Below(32))))
				wantDecode(t, b[:at])
				wantDecode(t, b[at:])
				if _, e := code.Decode(other); e == api.OK {
					right++
				}
			}
		}
	}
	if right < 1000 {
		t.Errorf("only %d changed codes are codes still", right)
	}
}

// P11.2: any bytes, of any length.
func TestDecodeOfAnyBytes(t *testing.T) {
	numbers := drill.Numbers(112)
	for i := range 200000 {
		b := make([]byte, numbers.Below(14))
		for at := range b {
			b[at] = byte(numbers.Below(256))
			if i%2 == 0 {
				b[at] %= 28
			}
		}
		wantDecode(t, b)
	}
}

// P11.3: each operation's line, as the table has its word and the promise its operand.
func TestListOfEveryOperation(t *testing.T) {
	is := drill.CodeOf(`push 9223372036854775807; true; false; bytes "a\"\x00"; load 7; has 6; here; not; neg; add; sub; mul; min; max; lt; le; eq; len; cat; store 5; addto 4; clear 3; new; delete; jump 255; unless 0; push -9223372036854775808`)
	want := `0 push 9223372036854775807
1 true
2 false
3 bytes "a\"\x00"
4 load 7
5 has 6
6 here
7 not
8 neg
9 add
10 sub
11 mul
12 min
13 max
14 lt
15 le
16 eq
17 len
18 cat
19 store 5
20 addto 4
21 clear 3
22 new
23 delete
24 jump 280
25 unless 26
26 push -9223372036854775808
`
	if got, e := code.List(is...); got != want || e != api.OK {
		t.Errorf("List = %q, %d", got, e)
	}
	if got, e := code.List(); got != "" || e != api.OK {
		t.Errorf("List of nothing = %q, %d", got, e)
	}
	if got, e := code.List(drill.CodeOf(`bytes ""; push 0; jump 0`)...); got != "0 bytes \"\"\n1 push 0\n2 jump 3\n" || e != api.OK {
		t.Errorf("List = %q, %d", got, e)
	}
}
