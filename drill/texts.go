package drill

import (
	"slices"
	"strconv"
	"strings"

	"arbor/api"
	"arbor/syntax"
	"arbor/value"
)

// What a test writes as a text: a wrong one is a fault of the test, so that it panics.

// SchemaOf: the schema of a text.
func SchemaOf(text string) api.Schema {
	s, e := value.ParseSchema(text)
	must(e, "schema", text)
	return s
}

// Schemas: of all kinds of fields no schema has room, these two have them together.
func Schemas() []api.Schema {
	return []api.Schema{SchemaOf("n:int,m:int?,on:bool,off:bool?,tag:bytes?"), SchemaOf("tag:bytes?,off:bool?,b:bytes,n:int,on:bool")}
}

// RowOf: the row of a record's text, or of none.
func RowOf(s api.Schema, text string) api.Row {
	if text == "none" {
		return api.Row{}
	}
	r, e := value.Parse(s, text)
	must(e, "record", text)
	return api.Row{Here: true, Vals: r}
}

// ExprOf: the expression of a source.
func ExprOf(src string) api.Expr {
	x, e, _ := syntax.ParseExpr(src)
	must(e, "expression", src)
	return x
}

// ProgramOf: the program of a source.
func ProgramOf(src string) []api.Stmt {
	p, e, _ := syntax.Parse(src)
	must(e, "program", src)
	return p
}

// insWords: of the instructions, by number from 1 on.
const insWords = "push true false bytes load has here not neg add sub mul min max lt le eq len cat store addto clear new delete jump unless"

// CodeOf: the instructions of a text, with ; between each two. Behind an instruction's word stands its number or its bytes as a literal (without a ; in it): of a jump how many instructions are passed over.
func CodeOf(text string) []api.Ins {
	var is []api.Ins
	if text == "" {
		return is
	}
	for piece := range strings.SplitSeq(text, ";") {
		is = append(is, insOf(strings.TrimSpace(piece)))
	}
	return is
}

func insOf(text string) api.Ins {
	word, operand, _ := strings.Cut(text, " ")
	ins := api.Ins{Op: 1 + slices.Index(strings.Fields(insWords), word)}
	taken, e, err := 0, api.OK, error(nil)
	switch {
	case strings.HasPrefix(operand, `"`):
		ins.S, taken, e = value.Unquote(operand)
	case operand != "":
		ins.N, err = strconv.ParseInt(operand, 10, 64)
		taken = len(operand)
	}
	if ins.Op == 0 || err != nil || taken != len(operand) {
		e = api.ErrCode
	}
	must(e, "instruction", text)
	return ins
}

func must(e api.Errno, what, text string) {
	if e != api.OK {
		panic("drill: no " + what + ": " + text)
	}
}

// And for a test's messages:

// ShownRow: what RowOf is given.
func ShownRow(s api.Schema, row api.Row) string {
	if !row.Here && len(row.Vals) == 0 {
		return "none"
	}
	text, e := value.Print(s, row.Vals)
	if e != api.OK || !row.Here {
		return "no row of the schema"
	}
	return text
}

// ShownEntries: each key as a literal, with its record.
func ShownEntries(s api.Schema, list []api.Entry) string {
	text := ""
	for _, entry := range list {
		text += value.Quote(entry.Key) + ShownRow(s, api.Row{Here: true, Vals: entry.Vals}) + " "
	}
	return text
}

// Shown: a program's text, whatever its length.
func Shown(p []api.Stmt) string {
	text, e := syntax.Print(p)
	if e != api.OK {
		return "no program"
	}
	return text
}

// ShownExpr: likewise an expression's.
func ShownExpr(e api.Expr) string {
	text, errno := syntax.PrintExpr(e)
	if errno != api.OK {
		return "no expression"
	}
	return text
}

// ShownCode: what CodeOf is given; of instructions that may not be, too, all that they are.
func ShownCode(is []api.Ins) string {
	list := strings.Fields(insWords)
	pieces := make([]string, len(is))
	for at, ins := range is {
		pieces[at] = "operation " + strconv.Itoa(ins.Op)
		if 1 <= ins.Op && ins.Op <= len(list) {
			pieces[at] = list[ins.Op-1]
		}
		if ins.N != 0 || operandIsNumber(ins.Op) {
			pieces[at] += " " + strconv.FormatInt(ins.N, 10)
		}
		if ins.S != "" || ins.Op == api.IBytes {
			pieces[at] += " " + value.Quote(ins.S)
		}
	}
	return strings.Join(pieces, "; ")
}

func operandIsNumber(op int) bool {
	switch op {
	case api.IPush, api.ILoad, api.IHas, api.IStore, api.IAddTo, api.IClear, api.IJump, api.IUnless:
		return true
	}
	return false
}
