package migrate_test

import (
	"strings"
	"testing"

	"arbor/api"
	"arbor/drill"
	"arbor/migrate"
)

// exampleSchema: of all the chapter's examples but one.
const exampleSchema = "n:int,m:int?,on:bool"

// Example 1.
func TestExamplesOfTexts(t *testing.T) {
	seventeen := strings.Repeat("drop n;", 16) + "drop n"
	for _, x := range []struct {
		text string
		want []api.Edit
		e    api.Errno
		at   int
	}{
		{"add f:int?; drop on;rename  n k", []api.Edit{{Kind: api.EdAdd, Field: api.Field{Name: "f", Type: api.Int, Optional: true}}, {Kind: api.EdDrop, Name: "on"}, {Kind: api.EdRename, Name: "n", To: "k"}}, api.OK, 0},
		{"", nil, api.OK, 0},
		{";", nil, api.ErrEdit, 0},
		{"drop n; add x:Int", nil, api.ErrEdit, 1},
		{"rename if k", nil, api.ErrEdit, 0},
		{seventeen, nil, api.ErrEdit, 16},
	} {
		es, e, at := migrate.Parse(x.text)
		if e != x.e || at != x.at || len(es) != len(x.want) {
			t.Errorf("Parse(%q) = %v, %d, %d", x.text, es, e, at)
			continue
		}
		for i := range es {
			if es[i] != x.want[i] {
				t.Errorf("Parse(%q): %v, want %v", x.text, es[i], x.want[i])
			}
		}
		wantParse(t, x.text)
	}
}

// Example 2.
func TestExamplesOfTargets(t *testing.T) {
	s := drill.SchemaOf(exampleSchema)
	for text, want := range map[string]string{
		"add f:bytes": "n:int,m:int?,on:bool,f:bytes", "drop m; optional n": "n:int?,on:bool", "rename n k; rename m n": "k:int,n:int?,on:bool",
		"rename n m": "", "add on:int": "", "optional m": "", "plain n": "", "drop x": "", "drop n; drop m; drop on": "",
	} {
		target, e := migrate.Target(s, editsOf(text)...)
		switch {
		case want == "" && (e != api.ErrEdit || len(target.Fields) > 0), want != "" && (e != api.OK || !sameSchema(target, drill.SchemaOf(want))):
			t.Errorf("Target by %s: %v, %d, want %s", text, target, e, want)
		}
		wantTarget(t, s, editsOf(text))
	}
}

// Example 3.
func TestExamplesOfRecords(t *testing.T) {
	s := drill.SchemaOf(exampleSchema)
	for text, want := range map[string]string{"add f:bytes?": "{n=5,on=true}", "plain m": "{n=5,m=0,on=true}", "drop n": "{on=true}"} {
		target, _ := migrate.Target(s, editsOf(text)...)
		r, e := migrate.Record(s, drill.RowOf(s, "{n=5,on=true}").Vals, editsOf(text)...)
		if got := drill.ShownRow(target, api.Row{Here: true, Vals: r}); e != api.OK || got != want {
			t.Errorf("by %s: %s, %d, want %s", text, got, e, want)
		}
	}
}

// Examples 4 to 7.
func TestExamplesOfPrograms(t *testing.T) {
	const refused = "refused"
	for _, x := range []struct{ schema, src, text, want string }{
		{exampleSchema, "n += 1; if on { clear m }", "drop m", "n += 1; if on { }"},
		{exampleSchema, "n += 1; if on { clear m }", "drop on", refused},
		{exampleSchema, "n += 1; if on { clear m }", "rename m k", "n += 1; if on { clear k }"},
		{exampleSchema, "n += 1; if on { clear m }", "plain m", "n += 1; if on { m = 0 }"},
		{exampleSchema, "new; m = n + 1", "optional n", "if not here { new; n = 0 }; m = (n ?? 0) + 1"},
		{exampleSchema, "n = m ?? 3", "plain m", refused},
		{exampleSchema, "m max= 3", "plain m", refused},
		{exampleSchema, "m max= 3", "drop m", ""},
		{exampleSchema, "m = m; m += 2", "plain m", "m = m; m += 2"},
		{"n:int,m:int?,k:int?", "m = k", "plain m", "m = k ?? 0"},
		{"n:int,m:int?,k:int?", "m = k", "plain k", refused},
		{"n:int,m:int?,k:int?", "m = k", "plain m; plain k", refused},
	} {
		q, e := migrate.Program(drill.SchemaOf(x.schema), drill.ProgramOf(x.src), editsOf(x.text)...)
		if x.want == refused && (e != api.ErrEdit || len(q) > 0) || x.want != refused && (e != api.OK || !drill.Same(q, drill.ProgramOf(x.want))) {
			t.Errorf("%s by %s: %s, %d, want %s", x.src, x.text, drill.Shown(q), e, x.want)
		}
		wantProgram(t, drill.SchemaOf(x.schema), drill.ProgramOf(x.src), editsOf(x.text))
	}
}

// nested: n = n + (1 + (2 + .. , as deep as that, with an expression at the deepest place.
func nested(deep int, at api.Expr) []api.Stmt {
	for i := range deep - 3 {
		at = drill.Tree(api.EAdd, drill.Number(int64(i)), at)
	}
	return []api.Stmt{drill.Change(api.SSet, "n", drill.Tree(api.EAdd, drill.Field("n"), at))}
}

// Example 8.
func TestExampleOfDepth(t *testing.T) {
	s := drill.SchemaOf(exampleSchema)
	for deep := 4; deep <= 12; deep++ {
		for _, x := range []struct {
			at   api.Expr
			want api.Errno
		}{{drill.Number(7), api.OK}, {drill.Field("n"), api.ErrDepth}} {
			want := x.want
			if deep < 12 {
				want = api.OK
			}
			q, e := migrate.Program(s, nested(deep, x.at), editsOf("optional n")...)
			if e != want || (len(q) == 1) != (want == api.OK) {
				t.Errorf("%s: %s, %d, want %d", drill.Shown(nested(deep, x.at)), drill.Shown(q), e, want)
			}
		}
	}
}
