package migrate

import (
	"slices"

	"arbor/api"
	"arbor/syntax"
	"arbor/value"
)

// subject: what edits are done to, in memory of its own: a schema, a program that fits it, and records of it.
type subject struct {
	schema  api.Schema
	program []api.Stmt
	records [][]api.Value
}

// doing: what an edit that is well made does. It answers false, if the edit cannot be done to the schema or refuses the program: then the subject means nothing any more.
type doing func(x *subject, e api.Edit) bool

// doings: by kind.
func doings() []doing {
	return []doing{
		api.EdAdd:      (*subject).add,
		api.EdDrop:     (*subject).drop,
		api.EdRename:   (*subject).rename,
		api.EdOptional: (*subject).optional,
		api.EdPlain:    (*subject).plain,
	}
}

// edited: what edits make of a schema, of a program that fits it, and of any number of records of it. With an error they make nothing of them.
func edited(s api.Schema, p []api.Stmt, es []api.Edit, records ...[]api.Value) (subject, api.Errno) {
	if e := value.CheckSchema(s); e != api.OK {
		return subject{}, e
	}
	if len(es) > api.MaxEdits {
		return subject{}, api.ErrEdit
	}
	x := newSubject(s, p, records)
	for _, e := range es {
		if errno := x.take(e); errno != api.OK {
			return subject{}, errno
		}
	}
	return x, api.OK
}

func newSubject(s api.Schema, p []api.Stmt, records [][]api.Value) subject {
	x := subject{schema: api.Schema{Fields: slices.Clone(s.Fields)}, program: copied(p)}
	for _, r := range records {
		x.records = append(x.records, slices.Clone(r))
	}
	return x
}

// take: one edit is done.
func (x *subject) take(e api.Edit) api.Errno {
	if !wellMade(e) || !doings()[e.Kind](x, e) || value.CheckSchema(x.schema) != api.OK {
		return api.ErrEdit
	}
	return syntax.Check(x.program)
}

// add: no program for the schema names the field. That no other field bears its name is seen in the schema that comes of it.
func (x *subject) add(e api.Edit) bool {
	x.schema.Fields = append(x.schema.Fields, e.Field)
	for i, r := range x.records {
		x.records[i] = append(r, zeroValue(e.Field))
	}
	return true
}

func (x *subject) drop(e api.Edit) bool {
	at := x.place(e.Name)
	if at < 0 {
		return false
	}
	x.schema.Fields = slices.Delete(x.schema.Fields, at, at+1)
	for i, r := range x.records {
		x.records[i] = slices.Delete(r, at, at+1)
	}
	x.program = withoutField(x.program, e.Name)
	return !readsField(x.program, e.Name)
}

func (x *subject) rename(e api.Edit) bool {
	at := x.place(e.Name)
	if at < 0 || x.place(e.To) >= 0 {
		return false
	}
	x.schema.Fields[at].Name = e.To
	x.program = withNewName(x.program, e.Name, e.To)
	return true
}

// optional: the field is present in all records, as it was: in those that a program makes its program sees to it.
func (x *subject) optional(e api.Edit) bool {
	at := x.place(e.Name)
	if at < 0 || x.schema.Fields[at].Optional {
		return false
	}
	x.schema.Fields[at].Optional = true
	x.program = withPresentField(x.program, x.schema.Fields[at])
	return true
}

func (x *subject) plain(e api.Edit) bool {
	at := x.place(e.Name)
	if at < 0 || !x.schema.Fields[at].Optional || needsAbsence(x.program, e.Name) {
		return false
	}
	x.schema.Fields[at].Optional = false
	for _, r := range x.records {
		if r[at].Kind == api.None {
			r[at] = zeroValue(x.schema.Fields[at])
		}
	}
	x.program = withPlainField(x.program, x.schema, at)
	return true
}

// place: of the field with that name; below 0, if there is none.
func (x *subject) place(name string) int {
	return placeOf(x.schema, name)
}

func placeOf(s api.Schema, name string) int {
	return slices.IndexFunc(s.Fields, func(f api.Field) bool { return f.Name == name })
}

// zeroValue: what the zero record has of a field.
func zeroValue(f api.Field) api.Value {
	if f.Optional {
		return api.Value{}
	}
	return api.Value{Kind: f.Type}
}
