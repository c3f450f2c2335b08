package syntax

import (
	"strconv"
	"strings"

	"arbor/api"
	"arbor/value"
)

// What is written here passed Check.

func writeList(text *strings.Builder, list []api.Stmt) {
	for i, s := range list {
		if i > 0 {
			text.WriteString("; ")
		}
		writeStmt(text, s)
	}
}

func writeBlock(text *strings.Builder, list []api.Stmt) {
	text.WriteString("{ ")
	writeList(text, list)
	if len(list) > 0 {
		text.WriteByte(' ')
	}
	text.WriteByte('}')
}

func writeStmt(text *strings.Builder, s api.Stmt) {
	switch s.Op {
	case api.SSet:
		writeChange(text, s, " = ")
	case api.SAdd:
		writeChange(text, s, " += ")
	case api.SMin:
		writeChange(text, s, " min= ")
	case api.SMax:
		writeChange(text, s, " max= ")
	case api.SClear:
		text.WriteString("clear ")
		text.WriteString(s.Field)
	case api.SNew:
		text.WriteString("new")
	case api.SDelete:
		text.WriteString("delete")
	case api.SIf:
		writeChoice(text, s)
	}
}

func writeChange(text *strings.Builder, s api.Stmt, becomes string) {
	text.WriteString(s.Field)
	text.WriteString(becomes)
	writeExpr(text, s.Exprs[0], lowest)
}

func writeChoice(text *strings.Builder, s api.Stmt) {
	text.WriteString("if ")
	writeExpr(text, s.Exprs[0], lowest)
	text.WriteByte(' ')
	writeBlock(text, s.Then)
	if len(s.Else) > 0 {
		text.WriteString(" else ")
		writeBlock(text, s.Else)
	}
}

// writeExpr: that negative literals rank below the others plays no part here, as no place wants more than their rank.
func writeExpr(text *strings.Builder, e api.Expr, want int) {
	if forms[e.Op].rank < want {
		text.WriteByte('(')
		writeExpr(text, e, lowest)
		text.WriteByte(')')
		return
	}
	switch f := forms[e.Op]; f.shape {
	case plain:
		text.WriteString(plainText(e))
	case ahead:
		writeAhead(text, e, f)
	case between:
		writeExpr(text, e.Kids[0], f.left)
		text.WriteString(" " + f.text + " ")
		writeExpr(text, e.Kids[1], f.right)
	case call:
		writeCall(text, e, f)
	}
}

func plainText(e api.Expr) string {
	switch e.Op {
	case api.EInt:
		return strconv.FormatInt(e.N, 10)
	case api.EBool:
		return strconv.FormatBool(e.N == 1)
	case api.EBytes:
		return value.Quote(e.S)
	case api.EHas:
		return "has " + e.S
	case api.EHere:
		return "here"
	}
	return e.S
}

func writeAhead(text *strings.Builder, e api.Expr, f form) {
	text.WriteString(f.text)
	kid, want := e.Kids[0], f.right
	switch {
	case e.Op == api.ENot:
		text.WriteByte(' ')
	case kid.Op == api.EInt && kid.N >= 0:
		// Bare, it would be one literal with the "-".
		want = aboveAll
	}
	writeExpr(text, kid, want)
}

func writeCall(text *strings.Builder, e api.Expr, f form) {
	text.WriteString(f.text)
	mark := "("
	for _, kid := range e.Kids {
		text.WriteString(mark)
		writeExpr(text, kid, lowest)
		mark = ", "
	}
	text.WriteByte(')')
}
