package typing_test

import (
	"strings"
	"testing"

	"arbor/api"
	"arbor/drill"
	"arbor/lexer"
	"arbor/syntax"
	"arbor/typing"
	"arbor/value"
)

// wantFieldsRefused: Fields answers Check's error, and no names with it.
func wantFieldsRefused(t *testing.T, s api.Schema, p []api.Stmt, errno api.Errno) {
	t.Helper()
	r, w, got := typing.Fields(s, p)
	if got != errno || errno != api.OK && len(r)+len(w) > 0 {
		t.Fatalf("Fields of %s = %v, %v, %d, want the error %d", drill.Shown(p), r, w, got, errno)
	}
}

// bookFields: what a program reads and writes, told by the tokens on both sides of each name.
func bookFields(s api.Schema, tokens []api.Token) (reads, writes []string) {
	is := func(place int, text string) bool {
		return place >= 0 && place < len(tokens) && tokens[place].Kind >= api.TokWord && tokens[place].Text == text
	}
	for _, f := range s.Fields {
		read, written := false, false
		for i, token := range tokens {
			if token.Kind != api.TokName || token.Text != f.Name {
				continue
			}
			switch {
			case is(i+1, "+="), is(i+1, "min") && is(i+2, "="), is(i+1, "max") && is(i+2, "="):
				read, written = true, true
			case is(i+1, "="), is(i-1, "clear"):
				written = true
			default:
				read = true
			}
		}
		if read {
			reads = append(reads, f.Name)
		}
		if written {
			writes = append(writes, f.Name)
		}
	}
	return reads, writes
}

// wantBookFields: Fields answers what the tokens of the program's text tell.
func wantBookFields(t *testing.T, s api.Schema, p []api.Stmt) bool {
	t.Helper()
	tokens, e, _ := lexer.Lex(drill.Shown(p))
	if e != api.OK {
		return false
	}
	reads, writes := bookFields(s, tokens)
	wantFields(t, s, p, reads, writes, api.OK)
	return true
}

// P9.3: every statement that fits, and what does not fit has Check's error.
func TestFieldsOfEveryStmt(t *testing.T) {
	for _, s := range drill.Schemas() {
		for _, st := range everyStmt(s) {
			p := []api.Stmt{st}
			if errno, _ := bookCheck(s, p); errno != api.OK {
				wantFieldsRefused(t, s, p, errno)
				continue
			}
			wantBookFields(t, s, p)
			wantBookFields(t, s, []api.Stmt{drill.Choice(drill.Here(), p, nil)})
			wantBookFields(t, s, []api.Stmt{drill.Choice(drill.Here(), nil, p)})
		}
	}
}

// P9.3: every two statements out of some, one behind the other and in the blocks of an if.
func TestFieldsOfEveryPair(t *testing.T) {
	s := drill.SchemaOf(exampleSchema)
	var list [][]api.Stmt
	for src := range strings.SplitSeq("new; delete; n = 1; n = n; n = m ?? n; m = m; n += 1; m min= n; m max= 2; clear m; clear tag; on = has m; on = here; tag = cat(tag ?? \"m\", \"n\"); if on { }; if has tag { n = 1 }", "; ") {
		list = append(list, drill.ProgramOf(src))
	}
	drill.Scripts(list, 2, func(script [][]api.Stmt) {
		wantBookFields(t, s, append(append([]api.Stmt{}, script[0]...), script[1]...))
		wantBookFields(t, s, []api.Stmt{drill.Choice(drill.Field("on"), script[0], script[1])})
		wantBookFields(t, s, []api.Stmt{drill.Choice(drill.Here(), script[1], []api.Stmt{drill.Choice(drill.Here(), script[0], nil)})})
	})
}

// P9.3: names come in the schema's order, whatever the program's is.
func TestFieldsAreInTheSchemasOrder(t *testing.T) {
	texts := []string{"n:int", "m:int?", "on:bool", "tag:bytes?"}
	p := drill.ProgramOf(`tag = tag; m = n + 1; if on or has m { on = here } else { clear m; n += m ?? len(tag ?? "") }`)
	orders := 0
	drill.Scripts(texts, len(texts), func(script []string) {
		s, e := value.ParseSchema(strings.Join(script, ","))
		if e != api.OK {
			return
		}
		orders++
		var names []string
		for _, f := range s.Fields {
			names = append(names, f.Name)
		}
		wantFields(t, s, p, names, names, api.OK)
		wantBookFields(t, s, p)
	})
	if orders != 24 {
		t.Errorf("%d orders of four fields", orders)
	}
}

// P9.3: programs of all kinds that fit.
func TestFieldsOfDeepPrograms(t *testing.T) {
	numbers := drill.Numbers(93)
	for _, s := range drill.Schemas() {
		fitting := drill.Fitting{Schema: s, Numbers: &numbers}
		told := 0
		for i := range 3000 {
			p := fitting.Program(2 + i%4)
			if syntax.Check(p) == api.OK && wantBookFields(t, s, p) {
				told++
			}
		}
		if told < 1000 {
			t.Errorf("the fields of %d programs alone were told", told)
		}
	}
}
