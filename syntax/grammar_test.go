package syntax_test

import (
	"testing"

	"arbor/api"
	"arbor/drill"
)

// The chapter's grammar of programs, word by word; that of expressions stands in package drill.
const bookGrammar = `
program   = list .
list      = [ statement { ";" statement } [ ";" ] ] .
block     = "{" list "}" .
statement = name "=" expr | name "+=" expr | name "min" "=" expr | name "max" "=" expr
          | "clear" name | "new" | "delete" | if .
if        = "if" expr block [ "else" ( block | if ) ] .
` + drill.ExprGrammar

var (
	ofPrograms = drill.GrammarOf(bookGrammar, "program")
	ofExprs    = drill.GrammarOf(bookGrammar, "expr")
)

// growPrograms: every row of so many of these tokens that is a program, the beginning of one, or wrong at its last one: then whatever comes behind.
func growPrograms(t *testing.T, texts string, longest int) {
	tried := ofPrograms.Grow(texts, longest, func(src string) { wantParse(t, src) }, func(src string, place int) {
		wantProgram(t, src, nil, api.ErrSyntax, place)
		wantProgram(t, src+" ;;)", nil, api.ErrSyntax, place)
	})
	t.Logf("%d sources", tried)
}

// growExprs: likewise of expressions.
func growExprs(t *testing.T, texts string, longest int) {
	tried := ofExprs.Grow(texts, longest, func(src string) { wantParseExpr(t, src) }, func(src string, place int) {
		wantTree(t, src, api.Expr{}, api.ErrSyntax, place)
		wantTree(t, src+" ;;)", api.Expr{}, api.ErrSyntax, place)
	})
	t.Logf("%d sources", tried)
}
