package syntax_test

import (
	"math/big"
	"regexp"
	"slices"
	"strings"
	"testing"

	"arbor/api"
	"arbor/drill"
	"arbor/lexer"
	"arbor/syntax"
	"arbor/value"
)

// The book: what the chapter says, told in its own order and without haste. Which tokens are a program, the grammar of grammar_test.go tells; what they mean is told here by cutting right ones apart where they bind least.

func bookParse(src string) ([]api.Stmt, api.Errno, int) {
	tokens, e, at := lexer.Lex(src)
	if e != api.OK {
		return nil, e, at
	}
	if place, right := ofPrograms.Place(tokens, len(src)); !right {
		return nil, api.ErrSyntax, place
	}
	if begins := bookBegins(tokens); len(begins) > 32 {
		return nil, api.ErrMany, begins[32]
	}
	p := bookStmts(tokens)
	if bookDepth(p) > 12 {
		return nil, api.ErrDepth, 0
	}
	return p, api.OK, 0
}

func bookParseExpr(src string) (api.Expr, api.Errno, int) {
	tokens, e, at := lexer.Lex(src)
	if e != api.OK {
		return api.Expr{}, e, at
	}
	if place, right := ofExprs.Place(tokens, len(src)); !right {
		return api.Expr{}, api.ErrSyntax, place
	}
	x := bookExpr(tokens)
	if bookExprDepth(x) > 12 {
		return api.Expr{}, api.ErrDepth, 0
	}
	return x, api.OK, 0
}

func isText(t api.Token, texts ...string) bool {
	return (t.Kind == api.TokWord || t.Kind == api.TokMark) && slices.Contains(texts, t.Text)
}

// bookBegins: where the statements of a right program begin.
func bookBegins(tokens []api.Token) []int {
	var places []int
	for i, t := range tokens {
		if (i == 0 || isText(tokens[i-1], ";", "{", "else")) && !isText(t, "{", "}") {
			places = append(places, t.At)
		}
	}
	return places
}

// outside: the places of tokens that stand in no parentheses and no block, in their order.
func outside(tokens []api.Token) []int {
	var places []int
	deep := 0
	for i, t := range tokens {
		if isText(t, ")", "}") {
			deep--
		}
		if deep == 0 {
			places = append(places, i)
		}
		if isText(t, "(", "{") {
			deep++
		}
	}
	return places
}

// cutAt: the parts between the outside tokens of that text.
func cutAt(tokens []api.Token, text string) [][]api.Token {
	var parts [][]api.Token
	from := 0
	for _, i := range outside(tokens) {
		if isText(tokens[i], text) {
			parts = append(parts, tokens[from:i])
			from = i + 1
		}
	}
	return append(parts, tokens[from:])
}

func bookStmts(tokens []api.Token) []api.Stmt {
	var list []api.Stmt
	for _, part := range cutAt(tokens, ";") {
		if len(part) > 0 {
			list = append(list, bookStmt(part))
		}
	}
	return list
}

func bookStmt(tokens []api.Token) api.Stmt {
	switch {
	case isText(tokens[0], "clear"):
		return api.Stmt{Op: api.SClear, Field: tokens[1].Text}
	case isText(tokens[0], "new"):
		return api.Stmt{Op: api.SNew}
	case isText(tokens[0], "delete"):
		return api.Stmt{Op: api.SDelete}
	case isText(tokens[0], "if"):
		return bookIf(tokens)
	}
	op, from := api.SSet, 2
	switch {
	case isText(tokens[1], "+="):
		op = api.SAdd
	case isText(tokens[1], "min"):
		op, from = api.SMin, 3
	case isText(tokens[1], "max"):
		op, from = api.SMax, 3
	}
	return api.Stmt{Op: op, Field: tokens[0].Text, Exprs: []api.Expr{bookExpr(tokens[from:])}}
}

func bookIf(tokens []api.Token) api.Stmt {
	var braces []int
	otherwise := 0
	for _, i := range outside(tokens) {
		if isText(tokens[i], "{", "}") {
			braces = append(braces, i)
		}
		if isText(tokens[i], "else") && otherwise == 0 {
			otherwise = i + 1
		}
	}
	s := api.Stmt{Op: api.SIf, Exprs: []api.Expr{bookExpr(tokens[1:braces[0]])}, Then: bookStmts(tokens[braces[0]+1 : braces[1]])}
	switch {
	case otherwise > 0 && isText(tokens[otherwise], "if"):
		s.Else = []api.Stmt{bookIf(tokens[otherwise:])}
	case otherwise > 0:
		s.Else = bookStmts(tokens[braces[2]+1 : braces[3]])
	}
	return s
}

// endsOperand: a "-" behind such a token stands between two.
func endsOperand(t api.Token) bool {
	return t.Kind == api.TokName || t.Kind == api.TokInt || t.Kind == api.TokString || isText(t, "true", "false", "here", ")")
}

var bookBetween = map[string]int{
	"+": api.EAdd, "-": api.ESub, "*": api.EMul, "<": api.ELt, "<=": api.ELe, ">": api.EGt, ">=": api.EGe,
	"==": api.EEq, "!=": api.ENe, "and": api.EAnd, "or": api.EOr, "??": api.EElse,
}

var bookCalls = map[string]int{"min": api.EMin, "max": api.EMax, "cat": api.ECat, "len": api.ELen, "pick": api.EPick}

// operatorsAt: where one of these marks or words stands outside, between two operands.
func operatorsAt(tokens []api.Token, texts ...string) []int {
	return slices.DeleteFunc(outside(tokens), func(i int) bool {
		return !isText(tokens[i], texts...) || i == 0 || !endsOperand(tokens[i-1])
	})
}

func bookExpr(tokens []api.Token) api.Expr {
	if e, ok := cutLast(tokens, "or"); ok {
		return e
	}
	if e, ok := cutLast(tokens, "and"); ok {
		return e
	}
	if isText(tokens[0], "not") {
		return tree(api.ENot, bookExpr(tokens[1:]))
	}
	if e, ok := cutLast(tokens, "==", "!=", "<", "<=", ">", ">="); ok {
		return e
	}
	if places := operatorsAt(tokens, "??"); len(places) > 0 {
		return tree(api.EElse, bookExpr(tokens[:places[0]]), bookExpr(tokens[places[0]+1:]))
	}
	if e, ok := cutLast(tokens, "+", "-"); ok {
		return e
	}
	if e, ok := cutLast(tokens, "*"); ok {
		return e
	}
	switch {
	case isText(tokens[0], "-") && tokens[1].Kind == api.TokInt:
		return number(new(big.Int).Neg(bookNumber(tokens[1])).Int64())
	case isText(tokens[0], "-"):
		return tree(api.ENeg, bookExpr(tokens[1:]))
	}
	return bookPrimary(tokens)
}

// cutLast: of several of one rank the left ones come first, so the last one is the root.
func cutLast(tokens []api.Token, texts ...string) (api.Expr, bool) {
	places := operatorsAt(tokens, texts...)
	if len(places) == 0 {
		return api.Expr{}, false
	}
	i := places[len(places)-1]
	return tree(bookBetween[tokens[i].Text], bookExpr(tokens[:i]), bookExpr(tokens[i+1:])), true
}

func bookNumber(t api.Token) *big.Int {
	if t.N < 0 {
		return new(big.Int).Lsh(big.NewInt(1), 63)
	}
	return big.NewInt(t.N)
}

func bookPrimary(tokens []api.Token) api.Expr {
	switch first := tokens[0]; {
	case first.Kind == api.TokInt:
		return number(first.N)
	case first.Kind == api.TokString:
		return bytes(first.Text)
	case first.Kind == api.TokName:
		return field(first.Text)
	case isText(first, "true"):
		return boolean(1)
	case isText(first, "false"):
		return boolean(0)
	case isText(first, "has"):
		return has(tokens[1].Text)
	case isText(first, "here"):
		return here()
	case isText(first, "("):
		return bookExpr(tokens[1 : len(tokens)-1])
	}
	e := api.Expr{Op: bookCalls[tokens[0].Text]}
	for _, part := range cutAt(tokens[2:len(tokens)-1], ",") {
		e.Kids = append(e.Kids, bookExpr(part))
	}
	return e
}

// Trees by hand.

func tree(op int, kids ...api.Expr) api.Expr { return api.Expr{Op: op, Kids: kids} }
func number(n int64) api.Expr                { return api.Expr{Op: api.EInt, N: n} }
func boolean(n int64) api.Expr               { return api.Expr{Op: api.EBool, N: n} }
func bytes(s string) api.Expr                { return api.Expr{Op: api.EBytes, S: s} }
func field(name string) api.Expr             { return api.Expr{Op: api.EField, S: name} }
func has(name string) api.Expr               { return api.Expr{Op: api.EHas, S: name} }
func here() api.Expr                         { return api.Expr{Op: api.EHere} }

func change(op int, name string, e api.Expr) api.Stmt {
	return api.Stmt{Op: op, Field: name, Exprs: []api.Expr{e}}
}
func set(name string, e api.Expr) api.Stmt { return change(api.SSet, name, e) }
func clears(name string) api.Stmt          { return api.Stmt{Op: api.SClear, Field: name} }
func news() api.Stmt                       { return api.Stmt{Op: api.SNew} }
func deletes() api.Stmt                    { return api.Stmt{Op: api.SDelete} }
func choice(e api.Expr, then, otherwise []api.Stmt) api.Stmt {
	return api.Stmt{Op: api.SIf, Exprs: []api.Expr{e}, Then: then, Else: otherwise}
}
func list(p ...api.Stmt) []api.Stmt { return p }

// Depth and number.

func bookExprDepth(e api.Expr) int {
	if len(e.Kids) == 0 {
		return 1
	}
	depths := []int{}
	for _, kid := range e.Kids {
		depths = append(depths, bookExprDepth(kid))
	}
	return 1 + slices.Max(depths)
}

func bookStmtDepth(s api.Stmt) int {
	inside := []int{0}
	for _, e := range s.Exprs {
		inside = append(inside, bookExprDepth(e))
	}
	for _, inner := range slices.Concat(s.Then, s.Else) {
		inside = append(inside, bookStmtDepth(inner))
	}
	return 1 + slices.Max(inside)
}

func bookDepth(p []api.Stmt) int {
	deepest := 0
	for _, s := range p {
		deepest = max(deepest, bookStmtDepth(s))
	}
	return deepest
}

func bookCount(p []api.Stmt) int {
	n := 0
	for _, s := range p {
		n += 1 + bookCount(s.Then) + bookCount(s.Else)
	}
	return n
}

// Check.

var bookName = regexp.MustCompile(`\A[A-Za-z_][A-Za-z_0-9]{0,7}\z`)

func bookIsName(text string) bool {
	keywords := strings.Fields("and cat clear delete else false has here if len max min new not or pick true")
	return bookName.MatchString(text) && !slices.Contains(keywords, text)
}

func bookKids(op int) int {
	switch op {
	case api.EInt, api.EBool, api.EBytes, api.EField, api.EHas, api.EHere:
		return 0
	case api.ENot, api.ENeg, api.ELen:
		return 1
	case api.EAdd, api.ESub, api.EMul, api.ELt, api.ELe, api.EGt, api.EGe, api.EEq, api.ENe, api.EAnd, api.EOr, api.EElse, api.EMin, api.EMax, api.ECat:
		return 2
	case api.EPick:
		return 3
	}
	return -1
}

func bookExprWellMade(e api.Expr) bool {
	if bookKids(e.Op) != len(e.Kids) || slices.ContainsFunc(e.Kids, func(kid api.Expr) bool { return !bookExprWellMade(kid) }) {
		return false
	}
	if e.N != 0 && e.Op != api.EInt && e.Op != api.EBool || e.Op == api.EBool && e.N != 0 && e.N != 1 {
		return false
	}
	switch e.Op {
	case api.EBytes:
		return len(e.S) <= 20
	case api.EField, api.EHas:
		return bookIsName(e.S)
	}
	return e.S == ""
}

func bookStmtWellMade(s api.Stmt) bool {
	named, exprs, blocks := false, 0, false
	switch s.Op {
	case api.SSet, api.SAdd, api.SMin, api.SMax:
		named, exprs = true, 1
	case api.SClear:
		named = true
	case api.SNew, api.SDelete:
	case api.SIf:
		exprs, blocks = 1, true
	default:
		return false
	}
	if named && !bookIsName(s.Field) || !named && s.Field != "" || len(s.Exprs) != exprs || !blocks && len(s.Then)+len(s.Else) > 0 {
		return false
	}
	return !slices.ContainsFunc(s.Exprs, func(e api.Expr) bool { return !bookExprWellMade(e) }) && bookWellMade(s.Then) && bookWellMade(s.Else)
}

func bookWellMade(p []api.Stmt) bool {
	return !slices.ContainsFunc(p, func(s api.Stmt) bool { return !bookStmtWellMade(s) })
}

func bookCheck(p []api.Stmt) api.Errno {
	switch {
	case !bookWellMade(p):
		return api.ErrTree
	case bookCount(p) > 32:
		return api.ErrMany
	case bookDepth(p) > 12:
		return api.ErrDepth
	}
	return api.OK
}

func bookCheckExpr(e api.Expr) api.Errno {
	switch {
	case !bookExprWellMade(e):
		return api.ErrTree
	case bookExprDepth(e) > 12:
		return api.ErrDepth
	}
	return api.OK
}

// Print.

func bookPrint(p []api.Stmt) string {
	var texts []string
	for _, s := range p {
		texts = append(texts, bookStmtText(s))
	}
	return strings.Join(texts, "; ")
}

func bookBlock(p []api.Stmt) string {
	if len(p) == 0 {
		return "{ }"
	}
	return "{ " + bookPrint(p) + " }"
}

func bookStmtText(s api.Stmt) string {
	switch s.Op {
	case api.SClear:
		return "clear " + s.Field
	case api.SNew:
		return "new"
	case api.SDelete:
		return "delete"
	}
	e := bookText(s.Exprs[0])
	switch s.Op {
	case api.SSet:
		return s.Field + " = " + e
	case api.SAdd:
		return s.Field + " += " + e
	case api.SMin:
		return s.Field + " min= " + e
	case api.SMax:
		return s.Field + " max= " + e
	}
	text := "if " + e + " " + bookBlock(s.Then)
	if len(s.Else) > 0 {
		text += " else " + bookBlock(s.Else)
	}
	return text
}

func bookRank(e api.Expr) int {
	switch e.Op {
	case api.EOr:
		return 1
	case api.EAnd:
		return 2
	case api.ENot:
		return 3
	case api.ELt, api.ELe, api.EGt, api.EGe, api.EEq, api.ENe:
		return 4
	case api.EElse:
		return 5
	case api.EAdd, api.ESub:
		return 6
	case api.EMul:
		return 7
	case api.ENeg:
		return 8
	}
	if e.Op == api.EInt && e.N < 0 {
		return 8
	}
	return 9
}

// bookOperand: in parentheses just if its rank is below what its place wants.
func bookOperand(e api.Expr, want int) string {
	if bookRank(e) < want {
		return "(" + bookText(e) + ")"
	}
	return bookText(e)
}

// bookWants: what a place on the left and on the right of an operator wants, by the operator's rank.
func bookWants(rank int) (left, right int) {
	wants := map[int][2]int{1: {1, 2}, 2: {2, 3}, 4: {5, 5}, 5: {6, 5}, 6: {6, 7}, 7: {7, 8}}
	return wants[rank][0], wants[rank][1]
}

func bookText(e api.Expr) string {
	switch e.Op {
	case api.EInt:
		return big.NewInt(e.N).String()
	case api.EBool:
		return []string{"false", "true"}[e.N]
	case api.EBytes:
		return value.Quote(e.S)
	case api.EField:
		return e.S
	case api.EHas:
		return "has " + e.S
	case api.EHere:
		return "here"
	case api.ENot:
		return "not " + bookOperand(e.Kids[0], 3)
	case api.ENeg:
		if e.Kids[0].Op == api.EInt && e.Kids[0].N >= 0 {
			return "-(" + bookText(e.Kids[0]) + ")"
		}
		return "-" + bookOperand(e.Kids[0], 8)
	}
	for text, op := range bookBetween {
		if op == e.Op {
			left, right := bookWants(bookRank(e))
			return bookOperand(e.Kids[0], left) + " " + text + " " + bookOperand(e.Kids[1], right)
		}
	}
	for text, op := range bookCalls {
		if op == e.Op {
			var kids []string
			for _, kid := range e.Kids {
				kids = append(kids, bookText(kid))
			}
			return text + "(" + strings.Join(kids, ", ") + ")"
		}
	}
	panic("no such operation")
}

// What the tests ask.

// wantParse: Parse answers what the book does; and what it gives is printed and parsed back.
func wantParse(t *testing.T, src string) {
	t.Helper()
	want, e, place := bookParse(src)
	wantProgram(t, src, want, e, place)
	if e == api.OK {
		wantPrint(t, want)
	}
}

func wantProgram(t *testing.T, src string, want []api.Stmt, e api.Errno, place int) {
	t.Helper()
	if got, errno, where := syntax.Parse(src); !drill.Same(got, want) || errno != e || where != place {
		t.Fatalf("Parse(%q) = %+v, %d, %d, want %+v, %d, %d", src, got, errno, where, want, e, place)
	}
}

// wantParseExpr: likewise ParseExpr.
func wantParseExpr(t *testing.T, src string) {
	t.Helper()
	want, e, place := bookParseExpr(src)
	wantTree(t, src, want, e, place)
	if e == api.OK {
		wantPrintExpr(t, want)
	}
}

func wantTree(t *testing.T, src string, want api.Expr, e api.Errno, place int) {
	t.Helper()
	if got, errno, where := syntax.ParseExpr(src); !drill.SameExpr(got, want) || errno != e || where != place {
		t.Fatalf("ParseExpr(%q) = %+v, %d, %d, want %+v, %d, %d", src, got, errno, where, want, e, place)
	}
}

// wantPrint: Check and Print answer what the book does; and Parse of the text, if it is short enough, is the program.
func wantPrint(t *testing.T, p []api.Stmt) {
	t.Helper()
	e, want := bookCheck(p), ""
	if e == api.OK {
		want = bookPrint(p)
	}
	got, errno := syntax.Print(p)
	if check := syntax.Check(p); check != e || errno != e || got != want {
		t.Fatalf("of %+v: Check = %d, Print = %q, %d, want %q, %d", p, check, got, errno, want, e)
	}
	if e == api.OK && len(got) <= api.MaxSource {
		wantProgram(t, got, p, api.OK, 0)
	}
}

// wantPrintExpr: likewise CheckExpr, PrintExpr and ParseExpr.
func wantPrintExpr(t *testing.T, x api.Expr) {
	t.Helper()
	e, want := bookCheckExpr(x), ""
	if e == api.OK {
		want = bookText(x)
	}
	got, errno := syntax.PrintExpr(x)
	if check := syntax.CheckExpr(x); check != e || errno != e || got != want {
		t.Fatalf("of %+v: CheckExpr = %d, PrintExpr = %q, %d, want %q, %d", x, check, got, errno, want, e)
	}
	if e == api.OK && len(got) <= api.MaxSource {
		wantTree(t, got, x, api.OK, 0)
	}
}
