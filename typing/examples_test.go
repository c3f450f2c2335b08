package typing_test

import (
	"strings"
	"testing"

	"arbor/api"
	"arbor/drill"
)

// The chapter's examples, line by line.

const exampleSchema = "n:int,m:int?,on:bool,tag:bytes?"

func TestExamplesOfTypes(t *testing.T) {
	s := drill.SchemaOf(exampleSchema)
	for _, x := range []struct {
		src      string
		of       int
		optional bool
	}{
		{"5", api.Int, false},
		{"m", api.Int, true},
		{"m ?? n", api.Int, false},
		{`tag ?? ""`, api.Bytes, false},
		{"has tag", api.Bool, false},
		{`pick(on, n, len(tag ?? ""))`, api.Int, false},
		{"on == on", api.Bool, false},
		{"m ?? m ?? 1", api.Int, false},
	} {
		wantType(t, s, drill.ExprOf(x.src), x.of, x.optional, api.OK)
	}
}

func TestExamplesOfMisfits(t *testing.T) {
	s := drill.SchemaOf(exampleSchema)
	for e, sources := range map[api.Errno]string{
		api.ErrField:    `x; has x; x + tag; tag + x; pick(n, x, 1)`,
		api.ErrOptional: `has n; n ?? 5; m ?? m; m + 1; m + tag; tag < n; pick(on, m, 1); cat(tag, tag)`,
		api.ErrType:     `m ?? "a"; m ?? tag; tag + 1; 1 + tag; on < on; n < "a"; not n; pick(n, m, 1); pick(on, 1, "a"); len(n)`,
	} {
		for src := range strings.SplitSeq(sources, "; ") {
			wantType(t, s, drill.ExprOf(src), 0, false, e)
		}
	}
}

func TestExamplesOfPrograms(t *testing.T) {
	s := drill.SchemaOf(exampleSchema)
	for _, x := range []struct {
		src    string
		e      api.Errno
		number int
	}{
		{"n = m", api.ErrOptional, 0},
		{"n = tag", api.ErrType, 0},
		{"m = n", api.OK, 0},
		{"m = m", api.OK, 0},
		{"tag = m", api.ErrType, 0},
		{"x = y", api.ErrField, 0},
		{"n = y", api.ErrField, 0},
		{"n += 1; m += n; on += 1", api.ErrType, 2},
		{"on += y", api.ErrField, 0},
		{`on += "a"`, api.ErrType, 0},
		{"m max= m", api.ErrOptional, 0},
		{"clear n", api.ErrOptional, 0},
		{"clear x", api.ErrField, 0},
		{"new; delete; clear m; clear tag", api.OK, 0},
		{"if on { n = 1; if n { new } else { clear n } } else { x = 1 }", api.ErrType, 2},
		{"if on { n = 1; if not on { new } else { clear n } } else { x = 1 }", api.ErrOptional, 4},
		{"if on { n = 1; if not on { new } else { clear m } } else { x = 1 }", api.ErrField, 5},
		{"", api.OK, 0},
	} {
		wantCheck(t, s, drill.ProgramOf(x.src), x.e, x.number)
		wantCheck(t, api.Schema{}, drill.ProgramOf(x.src), api.ErrSchema, 0)
	}
}

func TestExamplesOfFields(t *testing.T) {
	s := drill.SchemaOf(exampleSchema)
	wantFields(t, s, drill.ProgramOf("if has tag { n = n + (m ?? 0) } else { m += 1; clear tag }"), []string{"n", "m", "tag"}, []string{"n", "m", "tag"}, api.OK)
	wantFields(t, s, drill.ProgramOf("on = here; new"), nil, []string{"on"}, api.OK)
}
