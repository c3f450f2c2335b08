package typing_test

import (
	"slices"
	"strings"
	"testing"

	"arbor/api"
	"arbor/drill"
	"arbor/syntax"
	"arbor/typing"
	"arbor/value"
)

// The book: the chapter's two tables, taken over as texts, which the tests read word by word.

// Which expressions fit: the operations, what their kids must be, what they are. Any: Int, Bool or Bytes. 1st, 2nd: the type of that kid. What the two rows with a name say is told in bookExpr.
const exprRows = `
EInt | none | plain Int
EBool | none | plain Bool
EBytes | none | plain Bytes
EHere | none | plain Bool
ENot | plain Bool | plain Bool
ENeg | plain Int | plain Int
EAdd, ESub, EMul, EMin, EMax | plain Int; plain Int | plain Int
ELt, ELe, EGt, EGe | plain Int or Bytes; plain 1st | plain Bool
EEq, ENe | plain Any; plain 1st | plain Bool
EAnd, EOr | plain Bool; plain Bool | plain Bool
EElse | optional Any; plain 1st | plain 1st
ELen | plain Bytes | plain Int
ECat | plain Bytes; plain Bytes | plain Bytes
EPick | plain Bool; plain Any; plain 2nd | plain 2nd`

// Which statements fit: the operations, and what must be so, in its order.
const stmtRows = `
SSet | f is a field; e fits; e is of f's type; e is plain, or f is optional
SAdd, SMin, SMax | f is a field; e fits; f is of type Int; e is of type Int; e is plain
SClear | f is a field; f is optional
SNew, SDelete | always
SIf | e fits; e is of type Bool; e is plain`

var opNames = map[string]int{
	"EInt": api.EInt, "EBool": api.EBool, "EBytes": api.EBytes, "EHere": api.EHere, "ENot": api.ENot, "ENeg": api.ENeg,
	"EAdd": api.EAdd, "ESub": api.ESub, "EMul": api.EMul, "ELt": api.ELt, "ELe": api.ELe, "EGt": api.EGt, "EGe": api.EGe,
	"EEq": api.EEq, "ENe": api.ENe, "EAnd": api.EAnd, "EOr": api.EOr, "EElse": api.EElse, "EMin": api.EMin, "EMax": api.EMax,
	"ELen": api.ELen, "ECat": api.ECat, "EPick": api.EPick,
	"SSet": api.SSet, "SAdd": api.SAdd, "SMin": api.SMin, "SMax": api.SMax, "SClear": api.SClear, "SNew": api.SNew, "SDelete": api.SDelete, "SIf": api.SIf,
}

var typeNames = map[int]string{api.Int: "Int", api.Bool: "Bool", api.Bytes: "Bytes"}

// A row's columns but for the first one, by operation.
var (
	exprBook = readRows(exprRows)
	stmtBook = readRows(stmtRows)
)

func readRows(text string) map[int][]string {
	rows := map[int][]string{}
	for line := range strings.SplitSeq(strings.TrimSpace(text), "\n") {
		columns := strings.Split(line, " | ")
		for name := range strings.SplitSeq(columns[0], ", ") {
			rows[opNames[name]] = columns[1:]
		}
	}
	return rows
}

// wantsOf: what the kids of an operation must be.
func wantsOf(op int) []string {
	if exprBook[op][0] == "none" {
		return nil
	}
	return strings.Split(exprBook[op][0], "; ")
}

// told: a piece of a row, with the types of these kids in it.
func told(piece string, kids []string) string {
	for place, word := range []string{"1st", "2nd"} {
		if place < len(kids) {
			_, of, _ := strings.Cut(kids[place], " ")
			piece = strings.ReplaceAll(piece, word, of)
		}
	}
	return strings.ReplaceAll(piece, "Any", "Int or Bool or Bytes")
}

// bookField: what a field is: as all that fits in two words, plain or optional, and a type.
func bookField(s api.Schema, name string) (string, api.Errno) {
	for _, f := range s.Fields {
		switch {
		case f.Name == name && f.Optional:
			return "optional " + typeNames[f.Type], api.OK
		case f.Name == name:
			return "plain " + typeNames[f.Type], api.OK
		}
	}
	return "", api.ErrField
}

// bookExpr: what an expression is, or why it does not fit.
func bookExpr(s api.Schema, e api.Expr) (string, api.Errno) {
	var kids []string
	for _, kid := range e.Kids {
		k, errno := bookExpr(s, kid)
		if errno != api.OK {
			return "", errno
		}
		kids = append(kids, k)
	}
	switch e.Op {
	case api.EField:
		return bookField(s, e.S)
	case api.EHas:
		f, errno := bookField(s, e.S)
		if errno == api.OK && !strings.HasPrefix(f, "optional") {
			errno = api.ErrOptional
		}
		if errno != api.OK {
			return "", errno
		}
		return "plain Bool", api.OK
	}
	for i, want := range wantsOf(e.Op) {
		manner, types, _ := strings.Cut(told(want, kids), " ")
		isManner, isType, _ := strings.Cut(kids[i], " ")
		if !slices.Contains(strings.Split(types, " or "), isType) {
			return "", api.ErrType
		}
		if manner != isManner {
			return "", api.ErrOptional
		}
	}
	return told(exprBook[e.Op][1], kids), api.OK
}

// bookType: what Type answers.
func bookType(s api.Schema, e api.Expr) (int, bool, api.Errno) {
	if errno := value.CheckSchema(s); errno != api.OK {
		return 0, false, errno
	}
	if errno := syntax.CheckExpr(e); errno != api.OK {
		return 0, false, errno
	}
	is, errno := bookExpr(s, e)
	for of, name := range typeNames {
		if strings.HasSuffix(is, " "+name) {
			return of, strings.HasPrefix(is, "optional"), api.OK
		}
	}
	return 0, false, errno
}

// bookStmt: the error of the first thing in a statement's row that is not so.
func bookStmt(s api.Schema, st api.Stmt) api.Errno {
	f, unknown := bookField(s, st.Field)
	e, misfit := "", api.OK
	if len(st.Exprs) > 0 {
		e, misfit = bookExpr(s, st.Exprs[0])
	}
	typeOf := func(is string) string { return is[strings.Index(is, " ")+1:] }
	for say := range strings.SplitSeq(stmtBook[st.Op][0], "; ") {
		so, errno := false, api.ErrType
		switch say {
		case "always":
			so = true
		case "f is a field":
			so, errno = unknown == api.OK, unknown
		case "e fits":
			so, errno = misfit == api.OK, misfit
		case "e is of f's type":
			so = typeOf(e) == typeOf(f)
		case "f is of type Int":
			so = typeOf(f) == "Int"
		case "e is of type Int":
			so = typeOf(e) == "Int"
		case "e is of type Bool":
			so = typeOf(e) == "Bool"
		case "e is plain":
			so, errno = strings.HasPrefix(e, "plain"), api.ErrOptional
		case "f is optional":
			so, errno = strings.HasPrefix(f, "optional"), api.ErrOptional
		case "e is plain, or f is optional":
			so, errno = strings.HasPrefix(e, "plain") || strings.HasPrefix(f, "optional"), api.ErrOptional
		default:
			panic("the book does not know: " + say)
		}
		if !so {
			return errno
		}
	}
	return api.OK
}

// bookCheck: what Check answers.
func bookCheck(s api.Schema, p []api.Stmt) (api.Errno, int) {
	if errno := value.CheckSchema(s); errno != api.OK {
		return errno, 0
	}
	if errno := syntax.Check(p); errno != api.OK {
		return errno, 0
	}
	if errno, number := bookList(s, p, 0); errno != api.OK {
		return errno, number
	}
	return api.OK, 0
}

// bookList: the first error of statements that are numbered from some number on, and whose it is; else the number behind the last.
func bookList(s api.Schema, p []api.Stmt, number int) (api.Errno, int) {
	for _, st := range p {
		if errno := bookStmt(s, st); errno != api.OK {
			return errno, number
		}
		number++
		for _, block := range [][]api.Stmt{st.Then, st.Else} {
			errno, next := bookList(s, block, number)
			if errno != api.OK {
				return errno, next
			}
			number = next
		}
	}
	return api.OK, number
}

// What the tests ask.

func wantType(t *testing.T, s api.Schema, e api.Expr, of int, optional bool, errno api.Errno) {
	t.Helper()
	if k, o, got := typing.Type(s, e); k != of || o != optional || got != errno {
		t.Fatalf("Type of %s (%+v) = %d, %v, %d, want %d, %v, %d", drill.ShownExpr(e), e, k, o, got, of, optional, errno)
	}
}

// wantBookType: Type answers what the book does.
func wantBookType(t *testing.T, s api.Schema, e api.Expr) {
	t.Helper()
	of, optional, errno := bookType(s, e)
	wantType(t, s, e, of, optional, errno)
}

func wantCheck(t *testing.T, s api.Schema, p []api.Stmt, errno api.Errno, number int) {
	t.Helper()
	if got, at := typing.Check(s, p); got != errno || at != number {
		t.Fatalf("Check of %s (%+v) = %d, %d, want %d, %d", drill.Shown(p), p, got, at, errno, number)
	}
}

// wantBookCheck: Check answers what the book does.
func wantBookCheck(t *testing.T, s api.Schema, p []api.Stmt) {
	t.Helper()
	errno, number := bookCheck(s, p)
	wantCheck(t, s, p, errno, number)
}

func wantFields(t *testing.T, s api.Schema, p []api.Stmt, reads, writes []string, errno api.Errno) {
	t.Helper()
	if r, w, got := typing.Fields(s, p); !slices.Equal(r, reads) || !slices.Equal(w, writes) || got != errno {
		t.Fatalf("Fields of %s (%+v) = %v, %v, %d, want %v, %v, %d", drill.Shown(p), p, r, w, got, reads, writes, errno)
	}
}
