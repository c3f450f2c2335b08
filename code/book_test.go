package code_test

import (
	"bytes"
	"math/big"
	"slices"
	"strconv"
	"strings"
	"testing"

	"arbor/api"
	"arbor/code"
	"arbor/drill"
	"arbor/value"
)

// The book: the chapter's tables, told over texts: a stack is a text of its types' letters, and an instruction puts one end in the place of another.

// bookRow: of the table of instructions: word, operand, and on the stack "what it takes > what it gives", with f for the field's type.
type bookRow struct {
	word, operand string
	signs         []string
}

var bookRows = []bookRow{
	1:  {"push", "any number", []string{">i"}},
	2:  {"true", "", []string{">b"}},
	3:  {"false", "", []string{">b"}},
	4:  {"bytes", "bytes", []string{">s"}},
	5:  {"load", "a field", []string{">f"}},
	6:  {"has", "an optional field", []string{">b"}},
	7:  {"here", "", []string{">b"}},
	8:  {"not", "", []string{"b>b"}},
	9:  {"neg", "", []string{"i>i"}},
	10: {"add", "", []string{"ii>i"}},
	11: {"sub", "", []string{"ii>i"}},
	12: {"mul", "", []string{"ii>i"}},
	13: {"min", "", []string{"ii>i"}},
	14: {"max", "", []string{"ii>i"}},
	15: {"lt", "", []string{"ii>b", "ss>b"}},
	16: {"le", "", []string{"ii>b", "ss>b"}},
	17: {"eq", "", []string{"ii>b", "bb>b", "ss>b"}},
	18: {"len", "", []string{"s>i"}},
	19: {"cat", "", []string{"ss>s"}},
	20: {"store", "a field", []string{"f>"}},
	21: {"addto", "a field of type int", []string{"i>"}},
	22: {"clear", "an optional field", []string{">"}},
	23: {"new", "", []string{">"}},
	24: {"delete", "", []string{">"}},
	25: {"jump", "0 to 255", []string{">"}},
	26: {"unless", "0 to 255", []string{"b>"}},
}

func bookKnows(ins api.Ins) bool { return 1 <= ins.Op && ins.Op <= 26 }

// bookForm: ErrCode, ErrOperand or OK, of one instruction.
func bookForm(ins api.Ins) api.Errno {
	if !bookKnows(ins) {
		return api.ErrCode
	}
	right := false
	switch operand := bookRows[ins.Op].operand; {
	case operand == "":
		right = ins.N == 0 && ins.S == ""
	case operand == "any number":
		right = ins.S == ""
	case operand == "bytes":
		right = ins.N == 0 && len(ins.S) < 21
	case operand == "0 to 255":
		right = ins.N >= 0 && ins.N <= 255 && ins.S == ""
	case strings.Contains(operand, "field"):
		right = ins.N >= 0 && ins.N <= 7 && ins.S == ""
	}
	if !right {
		return api.ErrOperand
	}
	return api.OK
}

// bookField: has the schema the field, and is it what the table asks for?
func bookField(s api.Schema, ins api.Ins) bool {
	operand := bookRows[ins.Op].operand
	if !strings.Contains(operand, "field") {
		return true
	}
	if int(ins.N) >= len(s.Fields) {
		return false
	}
	field := s.Fields[ins.N]
	return map[string]bool{"a field": true, "an optional field": field.Optional, "a field of type int": field.Type == api.Int}[operand]
}

// bookInt: the turned number in groups of seven bits, over numbers of any size.
func bookInt(n int64) []byte {
	u := new(big.Int).Mul(big.NewInt(n), big.NewInt(2))
	if n < 0 {
		u.Sub(u.Neg(u), big.NewInt(1))
	}
	var b []byte
	for {
		group := new(big.Int)
		u.DivMod(u, big.NewInt(128), group)
		if u.Sign() == 0 {
			return append(b, byte(group.Int64()))
		}
		b = append(b, byte(128+group.Int64()))
	}
}

// bookIns: the bytes of one instruction whose form is right.
func bookIns(ins api.Ins) []byte {
	op := byte(ins.Op)
	switch bookRows[ins.Op].operand {
	case "":
		return []byte{op}
	case "any number":
		return append([]byte{op}, bookInt(ins.N)...)
	case "bytes":
		return append([]byte{op, byte(len(ins.S))}, ins.S...)
	}
	return []byte{op, byte(ins.N)}
}

func bookBytes(is []api.Ins) []byte {
	var b []byte
	for _, ins := range is {
		b = append(b, bookIns(ins)...)
	}
	return b
}

func bookEncode(is []api.Ins) ([]byte, api.Errno) {
	if len(is) > 96 {
		return nil, api.ErrCode
	}
	for _, ins := range is {
		if e := bookForm(ins); e != api.OK {
			return nil, e
		}
	}
	if b := bookBytes(is); len(b) <= 96 {
		return b, api.OK
	}
	return nil, api.ErrCode
}

// bookGuess: an instruction that might have these bytes, all of them; whether it has, its own bytes tell.
func bookGuess(b []byte) api.Ins {
	ins := api.Ins{Op: int(b[0])}
	switch {
	case ins.Op == api.IPush:
		u := new(big.Int)
		for _, group := range slices.Backward(b[1:]) {
			u.Add(u.Mul(u, big.NewInt(128)), big.NewInt(int64(group%128)))
		}
		if u.Bit(0) == 1 {
			u.Neg(u.Add(u, big.NewInt(1)))
		}
		ins.N = u.Div(u, big.NewInt(2)).Int64()
	case ins.Op == api.IBytes && len(b) > 1:
		ins.S = string(b[2:])
	case len(b) > 1:
		ins.N = int64(b[1])
	}
	return ins
}

// bookDecode: the code whose bytes are b: at each place the one instruction whose bytes stand there.
func bookDecode(b []byte) ([]api.Ins, api.Errno) {
	var is []api.Ins
	if len(b) > 96 {
		return nil, api.ErrCode
	}
next:
	for len(b) > 0 {
		for size := 1; size <= min(len(b), 22); size++ {
			ins := bookGuess(b[:size])
			if bookForm(ins) == api.OK && bytes.Equal(bookIns(ins), b[:size]) {
				is, b = append(is, ins), b[size:]
				continue next
			}
		}
		return nil, api.ErrCode
	}
	return is, api.OK
}

func bookList(is []api.Ins) (string, api.Errno) {
	if _, e := bookEncode(is); e != api.OK {
		return "", e
	}
	text := ""
	for at, ins := range is {
		text += strconv.Itoa(at) + " " + bookRows[ins.Op].word
		switch bookRows[ins.Op].operand {
		case "":
		case "bytes":
			text += " " + value.Quote(ins.S)
		case "0 to 255":
			text += " " + strconv.Itoa(at+int(ins.N)+1)
		default:
			text += " " + strconv.Itoa(int(ins.N))
		}
		text += "\n"
	}
	return text, api.OK
}

// bookNext: the places at which a run might go on.
func bookNext(at int, ins api.Ins) []int {
	behind, target := at+1, at+1+int(ins.N)
	switch ins.Op {
	case api.IJump:
		return []int{target}
	case api.IUnless:
		return []int{behind, target}
	}
	return []int{behind}
}

// bookStep: the stack behind an instruction, if it fits the one ahead of it.
func bookStep(s api.Schema, ins api.Ins, stack string) (string, bool) {
	for _, sign := range bookRows[ins.Op].signs {
		if strings.Contains(sign, "f") {
			sign = strings.ReplaceAll(sign, "f", " ibs"[s.Fields[ins.N].Type:][:1])
		}
		takes, gives, _ := strings.Cut(sign, ">")
		if under, fits := strings.CutSuffix(stack, takes); fits && len(under+gives) <= 16 {
			return under + gives, true
		}
	}
	return "", false
}

// bookLook: Verify's answer, and the types of each place.
func bookLook(s api.Schema, is []api.Ins) (texts []string, deep, at int, e api.Errno) {
	if value.CheckSchema(s) != api.OK {
		return nil, 0, 0, api.ErrSchema
	}
	if len(is) > 96 {
		return nil, 0, len(is), api.ErrCode
	}
	for at, ins := range is {
		if e := bookForm(ins); e != api.OK {
			return nil, 0, at, e
		}
		if !bookField(s, ins) {
			return nil, 0, at, api.ErrOperand
		}
	}
	if len(bookBytes(is)) > 96 {
		return nil, 0, len(is), api.ErrCode
	}
	for at, ins := range is {
		if slices.Max(bookNext(at, ins)) > len(is) {
			return nil, 0, at, api.ErrJump
		}
	}
	return bookStacks(s, is)
}

// bookStacks: place by place, all the stacks that are brought there.
func bookStacks(s api.Schema, is []api.Ins) (texts []string, deep, at int, e api.Errno) {
	brought := make([][]string, len(is)+1)
	brought[0] = []string{""}
	for at, stacks := range brought {
		slices.Sort(stacks)
		stacks = slices.Compact(stacks)
		if len(stacks) == 0 {
			texts = append(texts, "-")
			continue
		}
		fits := len(stacks) == 1
		if at < len(is) && fits {
			var behind string
			if behind, fits = bookStep(s, is[at], stacks[0]); fits {
				for _, next := range bookNext(at, is[at]) {
					brought[next] = append(brought[next], behind)
				}
			}
		}
		if !fits || at == len(is) && stacks[0] != "" {
			return nil, 0, at, api.ErrStack
		}
		texts = append(texts, stacks[0])
		deep = max(deep, len(stacks[0]))
	}
	return texts, deep, 0, api.OK
}

// What the tests ask.

// shown: a code for a message, which is not too long for one.
func shown(is []api.Ins) string {
	if len(is) > 200 {
		return strconv.Itoa(len(is)) + " instructions"
	}
	return drill.ShownCode(is)
}

func wantEncode(t *testing.T, is []api.Ins) {
	t.Helper()
	want, errno := bookEncode(is)
	if b, e := code.Encode(is...); !bytes.Equal(b, want) || e != errno {
		t.Fatalf("Encode(%s) = % x, %d, want % x, %d", shown(is), b, e, want, errno)
	}
	if errno != api.OK {
		return
	}
	if back, e := code.Decode(want); !slices.Equal(back, is) || e != api.OK {
		t.Fatalf("Decode(% x) = %s, %d, want %s", want, shown(back), e, shown(is))
	}
}

func wantDecode(t *testing.T, b []byte) {
	t.Helper()
	want, errno := bookDecode(b)
	is, e := code.Decode(b)
	if !slices.Equal(is, want) || e != errno {
		t.Fatalf("Decode(% x) = %s, %d, want %s, %d", b, shown(is), e, shown(want), errno)
	}
	if errno != api.OK {
		return
	}
	if back, e := code.Encode(is...); !bytes.Equal(back, b) || e != api.OK {
		t.Fatalf("Encode(%s) = % x, %d, want % x", shown(is), back, e, b)
	}
}

func wantList(t *testing.T, is []api.Ins) {
	t.Helper()
	want, errno := bookList(is)
	if text, e := code.List(is...); text != want || e != errno {
		t.Fatalf("List(%s) = %q, %d, want %q, %d", shown(is), text, e, want, errno)
	}
}

// wantLook: Verify and Types answer what the book says.
func wantLook(t *testing.T, s api.Schema, is []api.Ins) api.Errno {
	t.Helper()
	texts, wantDeep, wantAt, errno := bookLook(s, is)
	if deep, at, e := code.Verify(s, is...); deep != wantDeep || at != wantAt || e != errno {
		t.Fatalf("Verify(%s) = %d, %d, %d, want %d, %d, %d", shown(is), deep, at, e, wantDeep, wantAt, errno)
	}
	if got, e := code.Types(s, is...); !slices.Equal(got, texts) || e != errno {
		t.Fatalf("Types(%s) = %q, %d, want %q, %d", shown(is), got, e, texts, errno)
	}
	return errno
}

// wantVerify: what a test writes out, and the book says the same.
func wantVerify(t *testing.T, s api.Schema, is []api.Ins, wantDeep, wantAt int, errno api.Errno) {
	t.Helper()
	if deep, at, e := code.Verify(s, is...); deep != wantDeep || at != wantAt || e != errno {
		t.Fatalf("Verify(%s) = %d, %d, %d, want %d, %d, %d", shown(is), deep, at, e, wantDeep, wantAt, errno)
	}
	wantLook(t, s, is)
}

// times: an instruction, so many times.
func times(n int, text string) []api.Ins {
	return slices.Repeat(drill.CodeOf(text), n)
}
