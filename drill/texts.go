package drill

import (
	"arbor/api"
	"arbor/syntax"
	"arbor/value"
)

// What a test writes as a text: a wrong one is a fault of the test, so that it panics.

// SchemaOf: the schema of a text.
func SchemaOf(text string) api.Schema {
	s, e := value.ParseSchema(text)
	must(e, "schema", text)
	return s
}

// Schemas: of all kinds of fields no schema has room, these two have them together.
func Schemas() []api.Schema {
	return []api.Schema{SchemaOf("n:int,m:int?,on:bool,off:bool?,tag:bytes?"), SchemaOf("tag:bytes?,off:bool?,b:bytes,n:int,on:bool")}
}

// RowOf: the row of a record's text, or of none.
func RowOf(s api.Schema, text string) api.Row {
	if text == "none" {
		return api.Row{}
	}
	r, e := value.Parse(s, text)
	must(e, "record", text)
	return api.Row{Here: true, Vals: r}
}

// ExprOf: the expression of a source.
func ExprOf(src string) api.Expr {
	x, e, _ := syntax.ParseExpr(src)
	must(e, "expression", src)
	return x
}

// ProgramOf: the program of a source.
func ProgramOf(src string) []api.Stmt {
	p, e, _ := syntax.Parse(src)
	must(e, "program", src)
	return p
}

func must(e api.Errno, what, text string) {
	if e != api.OK {
		panic("drill: no " + what + ": " + text)
	}
}

// And for a test's messages:

// ShownRow: what RowOf is given.
func ShownRow(s api.Schema, row api.Row) string {
	if !row.Here && len(row.Vals) == 0 {
		return "none"
	}
	text, e := value.Print(s, row.Vals)
	if e != api.OK || !row.Here {
		return "no row of the schema"
	}
	return text
}

// Shown: a program's text, whatever its length.
func Shown(p []api.Stmt) string {
	text, e := syntax.Print(p)
	if e != api.OK {
		return "no program"
	}
	return text
}

// ShownExpr: likewise an expression's.
func ShownExpr(e api.Expr) string {
	text, errno := syntax.PrintExpr(e)
	if errno != api.OK {
		return "no expression"
	}
	return text
}
