package migrate_test

import (
	"math"
	"slices"
	"testing"

	"arbor/api"
	"arbor/drill"
	"arbor/migrate"
)

// P23.3: every edit of the fields that a schema has and of others, and every two of them.
func TestTargetOfEachEdit(t *testing.T) {
	names := []string{"n", "m", "x", "y"}
	var all []api.Edit
	for _, name := range names {
		all = append(all, api.Edit{Kind: api.EdDrop, Name: name}, api.Edit{Kind: api.EdOptional, Name: name}, api.Edit{Kind: api.EdPlain, Name: name})
		for _, to := range names {
			all = append(all, api.Edit{Kind: api.EdRename, Name: name, To: to})
		}
		for of := api.Int; of <= api.Bytes; of++ {
			all = append(all, api.Edit{Kind: api.EdAdd, Field: api.Field{Name: name, Type: of}}, api.Edit{Kind: api.EdAdd, Field: api.Field{Name: name, Type: of, Optional: true}})
		}
	}
	met := map[api.Errno]int{}
	for _, text := range []string{"n:int", "m:bytes?", "n:int,m:bool?", "m:bytes,x:bool,n:int?"} {
		s := drill.SchemaOf(text)
		drill.Scripts(all, 1, func(es []api.Edit) { wantTarget(t, s, es) })
		drill.Scripts(all, 2, func(es []api.Edit) {
			_, e := wantTarget(t, s, es)
			met[e]++
		})
	}
	if met[api.OK] < 1000 || met[api.ErrEdit] < 1000 || len(met) != 2 {
		t.Errorf("of two edits %v", met)
	}
}

// P23.3: long lists of edits, up to the first that cannot be done; so many that can.
func TestTargetOfManyEdits(t *testing.T) {
	numbers := drill.Numbers(311)
	for _, s := range schemas() {
		for i := range 300 {
			es := fittingEdits(&numbers, s, i%18)
			wantTarget(t, s, es)
			if len(es) > 0 {
				es[numbers.Below(len(es))] = anyEdit(&numbers, s)
				wantTarget(t, s, es)
			}
		}
	}
}

// P23.3: MaxEdits, each of which can be done, and one more.
func TestTargetOfTooManyEdits(t *testing.T) {
	s := drill.SchemaOf(exampleSchema)
	var es []api.Edit
	for many := range 40 {
		want := api.OK
		if many > 16 {
			want = api.ErrEdit
		}
		if _, e := wantTarget(t, s, es); e != want {
			t.Errorf("%d edits: %d, want %d", many, e, want)
		}
		if many%2 == 0 {
			es = append(es, editsOf("rename n k")...)
		} else {
			es = append(es, editsOf("rename k n")...)
		}
	}
	wantTarget(t, s, make([]api.Edit, 1<<20))
	wantTarget(t, s, slices.Repeat(editsOf("drop n"), 1<<20))
}

// P23.3: the schema's own bounds: how many fields, and how wide; an optional field may need a byte more.
func TestTargetAtTheBounds(t *testing.T) {
	for _, x := range []struct {
		schema, text string
		want         api.Errno
	}{
		{"a:bool,b:bool,c:bool,d:bool,e:bool,f:bool,g:bool", "add h:bool", api.OK},
		{"a:bool,b:bool,c:bool,d:bool,e:bool,f:bool,g:bool,h:bool", "add i:bool", api.ErrEdit},
		{"a:bool,b:bool,c:bool,d:bool,e:bool,f:bool,g:bool,h:bool", "drop a; add i:bool?", api.OK},
		{"a:bool", "drop a", api.ErrEdit}, {"a:bool", "drop a; add b:bool", api.ErrEdit}, {"a:bool", "add b:bool; drop a", api.OK}, {"a:bool,b:int", "drop b; drop a", api.ErrEdit},
		{"a:bytes,b:bytes,c:int,d:int", "add e:bool; add f:bool", api.OK}, {"a:bytes,b:bytes,c:int,d:int", "add e:bool; add f:bool; add g:bool", api.ErrEdit},
		{"a:bytes,b:bytes,c:int,d:int", "add e:bool?", api.OK}, {"a:bytes,b:bytes,c:int,d:int", "add e:bool?; add f:bool", api.ErrEdit}, {"a:bytes,b:bytes,c:int,d:int", "add e:int", api.ErrEdit},
		{"a:bytes?,b:bytes?,c:bytes?", "plain a; plain b", api.OK}, {"a:bytes?,b:bytes?,c:bytes?", "plain a; plain b; plain c", api.OK},
		{"a:bytes,b:bytes,c:int,d:int,e:bool,f:bool", "optional a", api.ErrEdit}, {"a:bytes,b:bytes,c:int,d:int,e:bool,f:bool", "drop f; optional a; optional b; optional c", api.OK}, {"a:bytes,b:bytes,c:int,d:int,e:bool,f:bool", "optional a; drop f", api.ErrEdit},
		{"a:bytes,b:bytes,c:int,d:int,e:bool?", "plain e; add f:bool", api.OK}, {"a:bytes,b:bytes,c:int,d:int,e:bool?", "add f:bool; plain e", api.ErrEdit},
		{"abcdefgh:int", "rename abcdefgh b; rename b abcdefgh", api.OK}, {"abcdefgh:int", "rename abcdefgh abcdefgh", api.ErrEdit},
	} {
		s := drill.SchemaOf(x.schema)
		if _, e := wantTarget(t, s, editsOf(x.text)); e != x.want {
			t.Errorf("%s by %s: %d, want %d", x.schema, x.text, e, x.want)
		}
	}
}

// wrongEdits: none of them is an edit of a schema with an int n and an optional int m, and without a field x.
func wrongEdits() [][]api.Edit {
	good := editsOf("rename n k; rename k n")
	lists := [][]api.Edit{make([]api.Edit, 17), make([]api.Edit, 1<<17), slices.Repeat(good, 9)}
	for _, e := range []api.Edit{
		{}, {Kind: -1}, {Kind: 6}, {Kind: 6, Name: "n"}, {Kind: math.MaxInt, Name: "n"}, {Kind: math.MinInt, Name: "n"}, {Kind: api.EdDrop}, {Kind: api.EdDrop, Name: "x"}, {Kind: api.EdDrop, Name: "if"}, {Kind: api.EdDrop, Name: "n", To: "x"}, {Kind: api.EdDrop, Name: "n", Field: api.Field{Type: api.Int}},
		{Kind: api.EdRename, Name: "n"}, {Kind: api.EdRename, To: "n"}, {Kind: api.EdRename, Name: "n", To: "n"}, {Kind: api.EdRename, Name: "n", To: "m"}, {Kind: api.EdRename, Name: "x", To: "y"}, {Kind: api.EdRename, Name: "n", To: "if"}, {Kind: api.EdRename, Name: "n", To: "x", Field: api.Field{Name: "n"}},
		{Kind: api.EdOptional, Name: "m"}, {Kind: api.EdOptional, Name: "x"}, {Kind: api.EdOptional, Name: "n", Field: api.Field{Optional: true}}, {Kind: api.EdPlain, Name: "n"}, {Kind: api.EdPlain, Name: "x"}, {Kind: api.EdPlain, Name: "m", To: "m"},
		{Kind: api.EdAdd}, {Kind: api.EdAdd, Name: "x"}, {Kind: api.EdAdd, Field: api.Field{Name: "x"}}, {Kind: api.EdAdd, Field: api.Field{Name: "x", Type: 4}}, {Kind: api.EdAdd, Field: api.Field{Name: "n", Type: api.Int}}, {Kind: api.EdAdd, Field: api.Field{Name: "m", Type: api.Int, Optional: true}}, {Kind: api.EdAdd, Name: "x", Field: api.Field{Name: "x", Type: api.Int}}, {Kind: api.EdAdd, Field: api.Field{Name: "not", Type: api.Int}},
	} {
		lists = append(lists, []api.Edit{e}, []api.Edit{e, e}, []api.Edit{good[0], good[1], e}, []api.Edit{e, good[0], good[1]})
	}
	return lists
}

// P23.3, P23.4, P23.5, R9: a schema that may not be comes first, then edits that may not be, whatever the record or the program is.
func TestErrorsInTheirOrder(t *testing.T) {
	s := drill.SchemaOf("n:int,m:int?,on:bool")
	record := drill.RowOf(s, "{n=5}").Vals
	ask := func(s api.Schema, es []api.Edit, want api.Errno) {
		t.Helper()
		if _, e := wantTarget(t, s, es); e != want {
			t.Fatalf("Target(%v, %s) = %d, want %d", s, shown(es), e, want)
		}
		for _, r := range [][]api.Value{nil, record, record[1:], make([]api.Value, 1<<17)} {
			if got, e := migrate.Record(s, r, es...); e != want || len(got) > 0 {
				t.Fatalf("Record(%s) = %v, %d, want %d", shown(es), got, e, want)
			}
		}
		for _, p := range [][]api.Stmt{nil, drill.ProgramOf("n += 1"), drill.ProgramOf("x = y"), {{}}, make([]api.Stmt, 1<<17)} {
			wantProgramIs(t, s, p, es, nil, want)
		}
	}
	for _, wrong := range drill.WrongSchemas() {
		for _, es := range [][]api.Edit{nil, {}, editsOf("drop n"), editsOf("add x:int"), {{}}, {{Kind: 99}}, make([]api.Edit, 17)} {
			ask(wrong, es, api.ErrSchema)
		}
	}
	for _, es := range wrongEdits() {
		ask(s, es, api.ErrEdit)
	}
}

// P23.4: every record by every edit, and by several.
func TestRecord(t *testing.T) {
	numbers := drill.Numbers(312)
	for _, s := range schemas() {
		records := drill.Records(s)
		for i := range 600 {
			es := fittingEdits(&numbers, s, i%17)
			f := drill.Fitting{Schema: s, Numbers: &numbers}
			for _, r := range [][]api.Value{records[0], records[1], records[len(records)-1], drill.Pick(&numbers, records), f.Record()} {
				wantRecord(t, s, r, es)
			}
		}
		for _, r := range records {
			for range 3 {
				wantRecord(t, s, r, fittingEdits(&numbers, s, 1))
			}
		}
	}
}

// P23.4: each kind by hand, with the field at each place.
func TestRecordOfEachKind(t *testing.T) {
	s := drill.SchemaOf("a:int?,b:bool?,c:bytes?,d:int,e:bool,f:int")
	full, bare := `{a=1,b=true,c="x",d=2,e=true,f=3}`, `{d=0,e=false,f=0}`
	for text, want := range map[string][2]string{
		"":                                     {full, bare},
		"plain a":                              {full, `{a=0,d=0,e=false,f=0}`},
		"plain b":                              {full, `{b=false,d=0,e=false,f=0}`},
		"plain c":                              {full, `{c="",d=0,e=false,f=0}`},
		"drop a":                               {`{b=true,c="x",d=2,e=true,f=3}`, bare},
		"drop c":                               {`{a=1,b=true,d=2,e=true,f=3}`, bare},
		"drop d":                               {`{a=1,b=true,c="x",e=true,f=3}`, `{e=false,f=0}`},
		"drop f":                               {`{a=1,b=true,c="x",d=2,e=true}`, `{d=0,e=false}`},
		"add g:bool; plain a; plain b; drop c": {`{a=1,b=true,d=2,e=true,f=3,g=false}`, `{a=0,b=false,d=0,e=false,f=0,g=false}`},
		"drop f; add g:int; add h:bool?":       {`{a=1,b=true,c="x",d=2,e=true,g=0}`, `{d=0,e=false,g=0}`},
		"drop c; add g:bytes; add c:bool?":     {`{a=1,b=true,d=2,e=true,f=3,g=""}`, `{d=0,e=false,f=0,g=""}`},
		"drop f; add f:int":                    {`{a=1,b=true,c="x",d=2,e=true,f=0}`, bare},
		"rename a z; rename b a; rename z b":   {`{b=1,a=true,c="x",d=2,e=true,f=3}`, bare},
		"optional d; optional e; optional f":   {full, bare},
		"drop a; rename d a; optional a; plain c": {`{b=true,c="x",a=2,e=true,f=3}`, `{c="",a=0,e=false,f=0}`},
	} {
		target, e := migrate.Target(s, editsOf(text)...)
		if e != api.OK {
			t.Errorf("%s: %d", text, e)
			continue
		}
		for i, from := range []string{full, bare} {
			r := wantRecord(t, s, drill.RowOf(s, from).Vals, editsOf(text))
			if got := drill.ShownRow(target, api.Row{Here: true, Vals: r}); got != want[i] {
				t.Errorf("%s makes of %s: %s, want %s", text, from, got, want[i])
			}
		}
	}
}

// P23.4: what is no record of the schema, though it may be one of the schema behind the edits.
func TestRecordOfNone(t *testing.T) {
	numbers := drill.Numbers(313)
	for _, s := range schemas() {
		for _, many := range []int{0, 1, 1, 2, 3, 16} {
			es := fittingEdits(&numbers, s, many)
			for _, r := range drill.WrongRecords(s) {
				wantRecord(t, s, r, es)
			}
			target, _ := bookTarget(s, es)
			for _, r := range drill.Records(target) {
				wantRecord(t, s, r, es)
			}
		}
	}
	s := drill.SchemaOf("n:int,m:int?")
	for text, record := range map[string][]api.Value{
		"drop m":     {{Kind: api.Int}},
		"optional n": {{}, {Kind: api.Int}},
		"add k:int":  {{Kind: api.Int}, {}, {Kind: api.Int}},
	} {
		if r, e := migrate.Record(s, record, editsOf(text)...); e != api.ErrValue || len(r) > 0 {
			t.Errorf("%s of a record of the schema behind it: %v, %d", text, r, e)
		}
	}
}
