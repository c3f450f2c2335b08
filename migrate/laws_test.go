package migrate_test

import (
	"slices"
	"testing"

	"arbor/api"
	"arbor/drill"
	"arbor/migrate"
	"arbor/typing"
)

// What follows, told of the program's answers alone.

// lawful: asks of a schema what is to have an answer.
type lawful struct {
	t *testing.T
	s api.Schema
}

func (a lawful) target(es ...api.Edit) lawful {
	a.t.Helper()
	target, e := migrate.Target(a.s, es...)
	if e != api.OK {
		a.t.Fatalf("Target(%v, %s) = %d", a.s, shown(es), e)
	}
	return lawful{a.t, target}
}

func (a lawful) record(r []api.Value, es ...api.Edit) []api.Value {
	a.t.Helper()
	r, e := migrate.Record(a.s, r, es...)
	if e != api.OK {
		a.t.Fatalf("Record(%s) = %d", shown(es), e)
	}
	return r
}

// each: schemas, and records and programs for them.
func each(t *testing.T, seed drill.Numbers, ask func(a lawful, f drill.Fitting, r []api.Value, p []api.Stmt)) {
	for _, s := range schemas() {
		f := drill.Fitting{Schema: s, Numbers: &seed}
		for i := range 400 {
			p := f.Program(2 + i%3)
			if e, _ := typing.Check(s, p); e == api.OK {
				ask(lawful{t, s}, f, f.Record(), p)
			}
		}
	}
}

// Edits in one call, or in two calls one behind the other.
func TestTwoCallsAreOne(t *testing.T) {
	met := map[api.Errno]int{}
	each(t, 331, func(a lawful, f drill.Fitting, r []api.Value, p []api.Stmt) {
		es := fittingEdits(f.Numbers, a.s, f.Numbers.Below(6))
		cut := f.Numbers.Below(len(es) + 1)
		between := a.target(es[:cut]...)
		if one, two := a.target(es...), between.target(es[cut:]...); !sameSchema(one.s, two.s) {
			t.Fatalf("%s, cut at %d: %v and %v", shown(es), cut, one.s, two.s)
		}
		if one, two := a.record(r, es...), between.record(a.record(r, es[:cut]...), es[cut:]...); !slices.Equal(one, two) {
			t.Fatalf("%s, cut at %d: %v and %v", shown(es), cut, one, two)
		}
		one, e := migrate.Program(a.s, p, es...)
		two, errno := migrate.Program(a.s, p, es[:cut]...)
		if errno == api.OK {
			two, errno = migrate.Program(between.s, two, es[cut:]...)
		}
		if e != errno || !drill.Same(one, two) {
			t.Fatalf("%s by %s, cut at %d: %s, %d and %s, %d", drill.Shown(p), shown(es), cut, drill.Shown(one), e, drill.Shown(two), errno)
		}
		met[e]++
	})
	if met[api.OK] < 500 || met[api.ErrEdit] < 100 {
		t.Errorf("the programs are %v", met)
	}
}

// A rename and the rename back, an add and a drop of the added field: nothing is changed.
func TestThereAndBack(t *testing.T) {
	adds := 0
	each(t, 332, func(a lawful, f drill.Fitting, r []api.Value, p []api.Stmt) {
		name := drill.Pick(f.Numbers, a.s.Fields).Name
		lists := [][]api.Edit{{{Kind: api.EdRename, Name: name, To: "back"}, {Kind: api.EdRename, Name: "back", To: name}}}
		added := []api.Edit{{Kind: api.EdAdd, Field: api.Field{Name: "added", Type: 1 + f.Numbers.Below(3), Optional: f.Numbers.Below(2) == 0}}, {Kind: api.EdDrop, Name: "added"}}
		if _, e := migrate.Target(a.s, added...); e == api.OK {
			lists = append(lists, added)
			adds++
		}
		for _, es := range lists {
			if b := a.target(es...); !sameSchema(a.s, b.s) {
				t.Fatalf("%s: %v", shown(es), b.s)
			}
			if b := a.record(r, es...); !slices.Equal(b, r) {
				t.Fatalf("%s: %v became %v", shown(es), r, b)
			}
			wantProgramIs(t, a.s, p, es, p, api.OK)
		}
	})
	if adds < 500 {
		t.Errorf("%d times a field was added", adds)
	}
}

// An optional and a plain of it give the same record; and a plain and an optional another one only where it was absent.
func TestOptionalAndPlain(t *testing.T) {
	asked := 0
	each(t, 333, func(a lawful, f drill.Fitting, r []api.Value, _ []api.Stmt) {
		for place, field := range a.s.Fields {
			es := []api.Edit{{Kind: api.EdOptional, Name: field.Name}, {Kind: api.EdPlain, Name: field.Name}}
			if field.Optional {
				slices.Reverse(es)
			}
			if _, e := migrate.Target(a.s, es...); e != api.OK {
				continue
			}
			asked++
			want := slices.Clone(r)
			if r[place].Kind == api.None {
				want[place].Kind = field.Type
			}
			if b := a.target(es...); !sameSchema(a.s, b.s) {
				t.Fatalf("%s: %v", shown(es), b.s)
			}
			if got := a.record(r, es...); !slices.Equal(got, want) {
				t.Fatalf("%s: %v became %v", shown(es), r, got)
			}
		}
	})
	if asked < 1000 {
		t.Errorf("%d times a field was made optional and plain", asked)
	}
}

// simple: a program without a new, and without a has, clear, min=, max= or a read of the field.
func simple(p []api.Stmt, name string) bool {
	exprs, stmts := drill.Parts(p)
	for _, e := range exprs {
		if (e.Op == api.EHas || e.Op == api.EField) && e.S == name {
			return false
		}
	}
	for _, st := range stmts {
		if st.Op == api.SNew || st.Field == name && (st.Op == api.SClear || st.Op == api.SMin || st.Op == api.SMax) {
			return false
		}
	}
	return true
}

// Such a program is refused by no edit of the field but for its size.
func TestSimpleProgramsAreNotRefused(t *testing.T) {
	kinds := map[int]int{}
	each(t, 334, func(a lawful, f drill.Fitting, _ []api.Value, p []api.Stmt) {
		for _, es := range eachEdit(a.s) {
			if !simple(p, es[0].Name) {
				continue
			}
			q, e := migrate.Program(a.s, p, es...)
			if e != api.OK && e != api.ErrMany && e != api.ErrDepth {
				t.Fatalf("%s by %s: %s, %d", drill.Shown(p), shown(es), drill.Shown(q), e)
			}
			kinds[es[0].Kind]++
		}
	})
	if len(kinds) != 5 || kinds[api.EdPlain] < 100 {
		t.Errorf("of the kinds came %v", kinds)
	}
}

// A field that no edit names keeps its value in each record.
func TestFieldsThatAreNotNamedStay(t *testing.T) {
	each(t, 335, func(a lawful, f drill.Fitting, r []api.Value, _ []api.Stmt) {
		es := fittingEdits(f.Numbers, a.s, f.Numbers.Below(4))
		b, edited := a.target(es...), a.record(r, es...)
		for place, field := range a.s.Fields {
			if slices.ContainsFunc(es, func(e api.Edit) bool { return e.Name == field.Name || e.To == field.Name || e.Field.Name == field.Name }) {
				continue
			}
			if now := slices.Index(b.s.Fields, field); now < 0 || edited[now] != r[place] {
				t.Fatalf("%s: %v became %v", shown(es), r, edited)
			}
		}
	})
}

// A program's statements one behind the other: each list of them is edited by itself.
func TestProgramsAreEditedStatementByStatement(t *testing.T) {
	met := map[api.Errno]int{}
	each(t, 336, func(a lawful, f drill.Fitting, _ []api.Value, p []api.Stmt) {
		es := fittingEdits(f.Numbers, a.s, 1+f.Numbers.Below(2))
		whole, e := migrate.Program(a.s, p, es...)
		if e == api.ErrMany {
			return
		}
		var parts []api.Stmt
		errno := api.OK
		for i := range p {
			part, e := migrate.Program(a.s, p[i:i+1], es...)
			errno = max(errno, e)
			parts = append(parts, part...)
		}
		if (e == api.OK) != (errno == api.OK) || e == api.OK && !drill.Same(whole, parts) {
			t.Fatalf("%s by %s: %s, %d; by parts %s, %d", drill.Shown(p), shown(es), drill.Shown(whole), e, drill.Shown(parts), errno)
		}
		met[e]++
	})
	if met[api.OK] < 500 || met[api.ErrEdit] < 100 {
		t.Errorf("the programs are %v", met)
	}
}
