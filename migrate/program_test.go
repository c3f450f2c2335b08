package migrate_test

import (
	"slices"
	"strings"
	"testing"

	"arbor/api"
	"arbor/drill"
	"arbor/meaning"
	"arbor/migrate"
	"arbor/typing"
)

// manySchema: two fields of each kind that a program might copy from one to the other.
const manySchema = "n:int,m:int?,k:int?,on:bool,off:bool?,tag:bytes?"

// manyStatements: for that schema, all that an edit could meet, with literals that are called as the fields are.
func manyStatements() []string {
	return []string{
		"n = 1", "n = n", "n = -n * n", "n = m ?? n", "n = m ?? k ?? 1", "n = pick(has m, m ?? 1, n)", "n += n", "n += k ?? 0", "n min= n + 1", "n max= 3", "n max= m ?? 3",
		"m = 1", "m = n", "m = m", "m = k", "m = m ?? 0", "m = k ?? 5", "m = min(k ?? 1, n)", "m += 2", "m += m ?? 1", "m min= 2", "m min= m ?? 2", "m max= n", "m max= k ?? 1", "clear m", "k = m", "clear k", "k += n",
		"on = on", "on = has m", "on = not has k and on", "on = here", "on = off ?? on", "off = on", "off = off", "off = off ?? on", "off = has off", "clear off", "on = n < 3 or n == n",
		"tag = tag", `tag = "m"`, `tag = cat(tag ?? "n", "on")`, "clear tag", "n = len(tag ?? \"\")", "new", "delete",
		"if on { }", "if on { } else { m = 1 }", "if has m { m = 1 }", "if here { n = 1; m = k; n = 2 } else { new; m = 3 }", "if off ?? false { clear m; if n == 0 { new } else { m = m; m min= 1 } }", "if n == 0 { if on { on = false } else { delete } }", `if (tag ?? "x") == "tag" { clear tag; tag = "k" }`,
	}
}

// eachEdit: each one that can be done to a schema, with one name that is free.
func eachEdit(s api.Schema) [][]api.Edit {
	var lists [][]api.Edit
	for _, f := range s.Fields {
		for kind := api.EdDrop; kind <= api.EdPlain; kind++ {
			e := api.Edit{Kind: kind, Name: f.Name}
			if kind == api.EdRename {
				e.To = "x"
			}
			lists = append(lists, []api.Edit{e})
		}
	}
	for of := api.Int; of <= api.Bytes; of++ {
		lists = append(lists, []api.Edit{{Kind: api.EdAdd, Field: api.Field{Name: "x", Type: of}}}, []api.Edit{{Kind: api.EdAdd, Field: api.Field{Name: "x", Type: of, Optional: true}}})
	}
	return slices.DeleteFunc(lists, func(es []api.Edit) bool {
		_, e := bookTarget(s, es)
		return e != api.OK
	})
}

// wantMeaning: if there is an edited program, it fits, and does to the edited row what the program did to the row, edited.
func wantMeaning(t *testing.T, s api.Schema, p []api.Stmt, es []api.Edit, rows []api.Row) bool {
	t.Helper()
	q, e := migrate.Program(s, p, es...)
	if e != api.OK {
		return false
	}
	target, _ := bookTarget(s, es)
	if e, at := typing.Check(target, q); e != api.OK {
		t.Fatalf("%s by %s: %s does not fit: %d at %d", drill.Shown(p), shown(es), drill.Shown(q), e, at)
	}
	for _, row := range rows {
		was, _ := meaning.Run(s, p, row)
		want := bookRow(s, was, es)
		if is, e := meaning.Run(target, q, bookRow(s, row, es)); e != api.OK || !drill.SameRow(is, want) {
			t.Fatalf("%s by %s: %s on %s: %s, %d, want %s", drill.Shown(p), shown(es), drill.Shown(q), drill.ShownRow(s, row), drill.ShownRow(target, is), e, drill.ShownRow(target, want))
		}
	}
	return true
}

// fewRows: none, and records with every choice of optional fields.
func fewRows(s api.Schema) []api.Row {
	rows := []api.Row{{}}
	for i, record := range drill.Records(s) {
		if i%7 == 0 || i < 3 {
			rows = append(rows, api.Row{Here: true, Vals: record})
		}
	}
	return rows
}

// P23.5, P23.6: each statement alone and in blocks, and every two of them, by each edit.
func TestProgramOfEachStatement(t *testing.T) {
	s := drill.SchemaOf(manySchema)
	rows, edits := fewRows(s), eachEdit(s)
	met, unknown := map[api.Errno]int{}, 0
	ask := func(src string, rows []api.Row) {
		p := drill.ProgramOf(src)
		for _, es := range edits {
			e, known := wantProgram(t, s, p, es)
			if told := wantMeaning(t, s, p, es, rows); known && told != (e == api.OK) {
				t.Fatalf("%s by %s: the book says %d", src, shown(es), e)
			}
			if !known {
				unknown++
				continue
			}
			met[e]++
		}
	}
	for _, src := range manyStatements() {
		ask(src, rows)
		ask("if on { "+src+" }", rows)
		ask("if on { n = 1; "+src+"; "+src+" } else { if here { "+src+" } }", rows)
		ask("if not here { } else { if on { "+src+"; delete } else { "+src+" } }; new", rows)
	}
	drill.Scripts(manyStatements(), 2, func(list []string) { ask(strings.Join(list, "; "), rows[:3]) })
	if len(manyStatements()) < 50 || met[api.OK] < 10000 || met[api.ErrEdit] < 5000 || len(met) != 2 || unknown > 100 {
		t.Errorf("%d statements; the programs are %v, and %d that the book does not know", len(manyStatements()), met, unknown)
	}
}

// P23.5, P23.6: programs of all kinds by some edits.
func TestProgram(t *testing.T) {
	numbers := drill.Numbers(321)
	for _, s := range schemas() {
		f := drill.Fitting{Schema: s, Numbers: &numbers}
		rows := f.Rows(0)
		met, told := map[api.Errno]int{}, 0
		for i := range 1200 {
			p := f.Program(2 + i%3)
			if e, _ := typing.Check(s, p); e != api.OK {
				continue
			}
			es := fittingEdits(&numbers, s, 1+numbers.Below(3))
			if e, known := wantProgram(t, s, p, es); known {
				met[e]++
			}
			if wantMeaning(t, s, p, es, append(rows, f.Row(), f.Row(), f.Row())) {
				told++
			}
		}
		if met[api.OK] < 300 || met[api.ErrEdit] < 30 || told < 300 {
			t.Errorf("%v: the programs are %v; of %d it was told what they do", s, met, told)
		}
	}
}

// P23.5: without edits the program itself.
func TestProgramWithoutEdits(t *testing.T) {
	numbers := drill.Numbers(322)
	for _, s := range drill.Schemas() {
		f := drill.Fitting{Schema: s, Numbers: &numbers}
		for range 500 {
			p := f.Program(4)
			if e, _ := typing.Check(s, p); e == api.OK {
				wantProgramIs(t, s, p, nil, p, api.OK)
			}
		}
	}
}

// P23.5: a program that may not be, or does not fit: why, if the edits can be done, whatever they would do to it.
func TestProgramThatDoesNotFit(t *testing.T) {
	s := drill.SchemaOf("n:int,m:int?,on:bool,tag:bytes?")
	for _, text := range []string{"", "drop n", "plain m", "optional on", "add x:int", "rename n x", "drop tag; add z:int"} {
		for _, w := range drill.WrongPrograms() {
			wantProgramIs(t, s, w.Part, editsOf(text), nil, w.Errno)
		}
	}
	for _, x := range []struct {
		src, text string
		want      api.Errno
	}{
		{"n = m", "plain m", api.ErrOptional}, {"m = m ?? m", "plain m", api.ErrOptional}, {"on = has n", "optional n", api.ErrOptional}, {"clear n", "optional n", api.ErrOptional}, {"n = n ?? 0", "optional n", api.ErrOptional},
		{"x = 1", "add x:int", api.ErrField}, {"x = 1", "rename n x", api.ErrField}, {"on = n", "drop on", api.ErrType}, {"m max= 1; n = tag", "plain m", api.ErrType}, {"n = m; x = 1", "drop n", api.ErrOptional},
	} {
		wantProgramIs(t, s, drill.ProgramOf(x.src), editsOf(x.text), nil, x.want)
	}
}

// news: so many statements new, one behind the other.
func news(many int) []api.Stmt {
	return slices.Repeat([]api.Stmt{{Op: api.SNew}}, many)
}

// inIfs: a program in so many ifs.
func inIfs(many int, p []api.Stmt) []api.Stmt {
	for range many {
		p = []api.Stmt{drill.Choice(drill.Here(), p, nil)}
	}
	return p
}

// P23.5: the first of the edited programs that is too large tells, though a later edit makes it smaller.
func TestProgramAtTheBounds(t *testing.T) {
	s := drill.SchemaOf(exampleSchema)
	mins := drill.ProgramOf("m min= 1")
	deep := nested(12, drill.Field("n"))
	for _, x := range []struct {
		what string
		p    []api.Stmt
		text string
		want api.Errno
	}{
		{"30 statements", news(10), "optional n", api.OK},
		{"31 statements", append(news(10), mins...), "optional n", api.OK},
		{"32 statements", append(news(10), slices.Repeat(mins, 2)...), "optional n", api.OK},
		{"33 statements", append(news(10), slices.Repeat(mins, 3)...), "optional n", api.ErrMany},
		{"33 statements of 11", news(11), "optional n", api.ErrMany},
		{"33 statements, some of them in an if", append(news(5), inIfs(1, append(news(5), mins[0], mins[0]))...), "optional n", api.ErrMany},
		{"32 statements, some of them in an if", append(news(5), inIfs(1, append(news(5), mins[0]))...), "optional n", api.OK},
		{"30 statements of 6", news(6), "optional n; optional on", api.OK},
		{"35 statements of 7", news(7), "optional n; optional on", api.ErrMany},
		{"36 statements, fewer later", news(12), "optional n; drop n", api.ErrMany},
		{"32 statements", news(32), "drop n; add f:int; rename m k; plain k", api.OK},
		{"too many and then refused", append(news(11), mins...), "optional n; plain m", api.ErrMany},
		{"refused and then too many", append(news(11), mins...), "plain m; optional n", api.ErrEdit},
		{"refused, as many as it is", append(news(11), drill.ProgramOf("on = has m")...), "drop m; optional n", api.ErrEdit},
		{"left out, and then too many", append(news(11), mins...), "drop m; optional n", api.ErrMany},
		{"too deep, less later", deep, "optional n; drop n", api.ErrDepth},
		{"less, and then no more", append(slices.Clone(deep), drill.ProgramOf("on = on")...), "drop n; optional on", api.OK},
		{"as deep as it may be", nested(11, drill.Field("n")), "optional n", api.OK},
		{"too deep the second time", nested(11, drill.Tree(api.EElse, drill.Field("m"), drill.Field("n"))), "optional n", api.ErrDepth},
		{"too deep and then refused", append(slices.Clone(deep), mins...), "optional n; plain m", api.ErrDepth},
		{"refused and then too deep", append(slices.Clone(deep), mins...), "plain m; optional n", api.ErrEdit},
		{"too many and too deep", append(news(11), deep...), "optional n", api.ErrMany},
		{"a new in 9 ifs", inIfs(9, news(1)), "optional n", api.OK},
		{"a new in 10 ifs", inIfs(10, news(1)), "optional n", api.ErrDepth},
		{"a new in 8 ifs, twice", inIfs(8, news(1)), "optional n; optional on", api.OK},
		{"a new in 9 ifs, twice", inIfs(9, news(1)), "optional n; optional on", api.ErrDepth},
		{"a clear in 10 ifs", inIfs(10, drill.ProgramOf("clear m")), "plain m", api.OK},
		{"a clear in 11 ifs", inIfs(11, drill.ProgramOf("clear m")), "plain m", api.ErrDepth},
		{"a clear in 11 ifs, left out", inIfs(11, drill.ProgramOf("clear m")), "drop m", api.OK},
	} {
		if e, known := wantProgram(t, s, x.p, editsOf(x.text)); known && e != x.want {
			t.Errorf("%s, by %s: the book says %d, want %d", x.what, x.text, e, x.want)
		}
		if q, e := migrate.Program(s, x.p, editsOf(x.text)...); e != x.want || e != api.OK && len(q) > 0 {
			t.Errorf("%s, by %s: %s, %d, want %d", x.what, x.text, drill.Shown(q), e, x.want)
		}
	}
	copies := drill.SchemaOf("m:int?,k:int?")
	for ifs, want := range map[int]api.Errno{9: api.OK, 10: api.ErrDepth} {
		wantProgram(t, copies, inIfs(ifs, drill.ProgramOf("m = k")), editsOf("plain m"))
		if _, e := migrate.Program(copies, inIfs(ifs, drill.ProgramOf("m = k")), editsOf("plain m")...); e != want {
			t.Errorf("a copy in %d ifs: %d, want %d", ifs, e, want)
		}
	}
}

// P23.5: MaxEdits of them, one behind the other, each of which does something.
func TestProgramByManyEdits(t *testing.T) {
	s := drill.SchemaOf(exampleSchema)
	p := drill.ProgramOf("n += 1; if on { clear m } else { m = n }")
	for _, x := range []struct{ text, want string }{
		{strings.Repeat("rename n k; rename k n; ", 7) + "rename n z; drop m", "z += 1; if on { }"},
		{"optional n; plain n", "refused"},
		{"add f:int; rename n k; rename f n; optional k; plain m; drop n; rename m n; optional n", "k += 1; if on { n = 0 } else { n = k ?? 0 }"},
		{strings.Repeat("optional on; rename on off; rename off on; add q:bool; drop q; ", 3) + "drop m", "no edit"},
		{"optional on; optional n", "n += 1; if on ?? false { clear m } else { m = n ?? 0 }"},
		{strings.Repeat("add f:int; drop f; ", 7) + "plain m; optional m", "n += 1; if on { m = 0 } else { m = n }"},
	} {
		es := editsOf(x.text)
		q, e := migrate.Program(s, p, es...)
		switch x.want {
		case "refused", "no edit":
			if e != api.ErrEdit || len(q) > 0 {
				t.Errorf("by %s: %s, %d", x.text, drill.Shown(q), e)
			}
		default:
			if e != api.OK || drill.Shown(q) != x.want {
				t.Errorf("by %s: %s, %d, want %s", x.text, drill.Shown(q), e, x.want)
			}
			wantMeaning(t, s, p, es, drill.Rows(s))
		}
	}
}

// R1: trees as broad and deep as they may be.
func TestProgramOfBroadTrees(t *testing.T) {
	s := drill.SchemaOf("n:int,on:bool")
	x := drill.Field("n")
	for range 9 {
		x = drill.Tree(api.EPick, drill.Field("on"), x, x)
	}
	p := slices.Repeat([]api.Stmt{drill.Change(api.SSet, "n", x)}, 32)
	es := editsOf("rename n m; optional m; add f:bytes; rename on off; rename m n; rename off on; drop f")
	q, e := migrate.Program(s, p, es...)
	if e != api.OK || len(q) != 32 {
		t.Fatalf("Program = %d statements, %d", len(q), e)
	}
	// 511 picks, with as many conditions, over 512 leaves, which have become three expressions each.
	if exprs, _ := drill.Parts(q[:1]); len(exprs) != 511+511+3*512 {
		t.Errorf("%d expressions", len(exprs))
	}
	if q, e := migrate.Program(s, p, editsOf("drop on")...); e != api.ErrEdit || len(q) > 0 {
		t.Errorf("Program = %d statements, %d", len(q), e)
	}
}
