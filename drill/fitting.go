package drill

import (
	"slices"
	"strings"

	"arbor/api"
)

// Sign: what an operation can be, and its kids then, a letter each: i an int, b a bool, s bytes; a capital: an optional field of that type.
type Sign struct {
	Op   int
	Is   rune
	Kids string
}

var signs = [...]Sign{
	{api.ENot, 'b', "b"}, {api.ENeg, 'i', "i"}, {api.ELen, 'i', "s"}, {api.ECat, 's', "ss"},
	{api.EAdd, 'i', "ii"}, {api.ESub, 'i', "ii"}, {api.EMul, 'i', "ii"}, {api.EMin, 'i', "ii"}, {api.EMax, 'i', "ii"},
	{api.ELt, 'b', "ii"}, {api.ELe, 'b', "ii"}, {api.EGt, 'b', "ii"}, {api.EGe, 'b', "ii"},
	{api.ELt, 'b', "ss"}, {api.ELe, 'b', "ss"}, {api.EGt, 'b', "ss"}, {api.EGe, 'b', "ss"},
	{api.EEq, 'b', "ii"}, {api.EEq, 'b', "bb"}, {api.EEq, 'b', "ss"},
	{api.ENe, 'b', "ii"}, {api.ENe, 'b', "bb"}, {api.ENe, 'b', "ss"},
	{api.EAnd, 'b', "bb"}, {api.EOr, 'b', "bb"},
	{api.EElse, 'i', "Ii"}, {api.EElse, 'b', "Bb"}, {api.EElse, 's', "Ss"},
	{api.EPick, 'i', "bii"}, {api.EPick, 'b', "bbb"}, {api.EPick, 's', "bss"},
}

// Signs: those of all operations with kids.
func Signs() []Sign {
	return slices.Clone(signs[:])
}

// TypeOf: the type of a sign's letter, and whether it is optional.
func TypeOf(letter rune) (int, bool) {
	place := strings.IndexRune("ibsIBS", letter)
	return 1 + place%3, place >= 3
}

// Values: of a type, with those at the edges.
func Values(of int) []api.Value {
	var list []api.Value
	switch of {
	case api.Int:
		for _, n := range []int64{0, 1, -1, 2, 7, -19, 1 << 32, 3037000500, -1 << 62, 1<<63 - 1, -1<<63 + 1, -1 << 63} {
			list = append(list, api.Value{Kind: of, N: n})
		}
	case api.Bool:
		list = append(list, api.Value{Kind: of}, api.Value{Kind: of, N: 1})
	case api.Bytes:
		for _, s := range []string{"", "\x00", "a", "ab", "b", "é", "\x7f", "\x80", "\xff", "abcdefghijklmnopqrs", "abcdefghijklmnopqrst", "zzzzzzzzzzzzzzzzzzzz"} {
			list = append(list, api.Value{Kind: of, S: s})
		}
	}
	return list
}

// Records: of a schema, with each choice of optional fields that are present, and values of several sizes. The first one has all of them, the last one none.
func Records(s api.Schema) [][]api.Value {
	var records [][]api.Value
	Scripts([]bool{true, false}, len(s.Fields), func(present []bool) {
		for size := range 3 {
			record := make([]api.Value, len(s.Fields))
			for i, f := range s.Fields {
				if !f.Optional || present[i] {
					values := Values(f.Type)
					record[i] = values[size*(len(values)-1)/2]
				}
			}
			records = append(records, record)
		}
	})
	return records
}

// Literal: the expression that is worth a value.
func Literal(v api.Value) api.Expr {
	switch v.Kind {
	case api.Int:
		return api.Expr{Op: api.EInt, N: v.N}
	case api.Bool:
		return api.Expr{Op: api.EBool, N: v.N}
	default:
		return api.Expr{Op: api.EBytes, S: v.S}
	}
}

// Fitting: makes what fits a schema, another one each time.
type Fitting struct {
	Schema  api.Schema
	Numbers *Numbers
}

// Value: of a type.
func (f Fitting) Value(of int) api.Value {
	return Pick(f.Numbers, Values(of))
}

// Record: of the schema.
func (f Fitting) Record() []api.Value {
	record := make([]api.Value, len(f.Schema.Fields))
	for i, field := range f.Schema.Fields {
		if !field.Optional || f.Numbers.Below(3) > 0 {
			record[i] = f.Value(field.Type)
		}
	}
	return record
}

// Row: with a record, or now and then none.
func (f Fitting) Row() api.Row {
	if f.Numbers.Below(8) == 0 {
		return api.Row{}
	}
	return api.Row{Here: true, Vals: f.Record()}
}

// Expr: one of at most that depth that is plain and of a type.
func (f Fitting) Expr(of, deep int) api.Expr {
	if deep <= 1 || f.Numbers.Below(6) == 0 {
		return f.leaf(of)
	}
	sign := Pick(f.Numbers, f.signs(of))
	e := api.Expr{Op: sign.Op}
	for _, letter := range sign.Kids {
		kid, optional := TypeOf(letter)
		if optional {
			e.Kids = append(e.Kids, Pick(f.Numbers, f.fields(kid, true)))
		} else {
			e.Kids = append(e.Kids, f.Expr(kid, deep-1))
		}
	}
	return e
}

// signs: of what is of a type; ?? only where the schema has an optional field of that type.
func (f Fitting) signs(of int) []Sign {
	var list []Sign
	for _, sign := range signs {
		is, _ := TypeOf(sign.Is)
		if is == of && (sign.Op != api.EElse || len(f.fields(of, true)) > 0) {
			list = append(list, sign)
		}
	}
	return list
}

func (f Fitting) leaf(of int) api.Expr {
	list := append(f.fields(of, false), Literal(f.Value(of)))
	if of == api.Bool {
		list = append(list, api.Expr{Op: api.EHere})
		for _, field := range f.Schema.Fields {
			if field.Optional {
				list = append(list, api.Expr{Op: api.EHas, S: field.Name})
			}
		}
	}
	return Pick(f.Numbers, list)
}

// fields: those of a type that are optional, or those that are not.
func (f Fitting) fields(of int, optional bool) []api.Expr {
	var list []api.Expr
	for _, field := range f.Schema.Fields {
		if field.Type == of && field.Optional == optional {
			list = append(list, api.Expr{Op: api.EField, S: field.Name})
		}
	}
	return list
}

// Stmt: one of at most that depth, 2 or more.
func (f Fitting) Stmt(deep int) api.Stmt {
	field := Pick(f.Numbers, f.Schema.Fields)
	switch op := 1 + f.Numbers.Below(api.SIf); op {
	case api.SSet:
		if field.Optional && f.Numbers.Below(3) == 0 {
			return api.Stmt{Op: op, Field: field.Name, Exprs: []api.Expr{Pick(f.Numbers, f.fields(field.Type, true))}}
		}
		return api.Stmt{Op: op, Field: field.Name, Exprs: []api.Expr{f.Expr(field.Type, deep-1)}}
	case api.SAdd, api.SMin, api.SMax:
		if field.Type == api.Int {
			return api.Stmt{Op: op, Field: field.Name, Exprs: []api.Expr{f.Expr(api.Int, deep-1)}}
		}
	case api.SClear:
		if field.Optional {
			return api.Stmt{Op: op, Field: field.Name}
		}
	case api.SIf:
		st := api.Stmt{Op: op, Exprs: []api.Expr{f.Expr(api.Bool, deep-1)}}
		if deep > 2 {
			st.Then, st.Else = f.Program(deep-1), f.Program(deep-1)
		}
		return st
	default:
		return api.Stmt{Op: op}
	}
	return f.Stmt(deep)
}

// Program: one with up to three statements in each block; so it may have more than MaxStmts of them.
func (f Fitting) Program(deep int) []api.Stmt {
	var p []api.Stmt
	for range f.Numbers.Below(4) {
		p = append(p, f.Stmt(deep))
	}
	return p
}

// Spoil: puts another expression in the place of one: a field, or has of one, whether the schema has it or not, or what fits somewhere.
func (f Fitting) Spoil(e *api.Expr) {
	names := []string{"x"}
	for _, field := range f.Schema.Fields {
		names = append(names, field.Name)
	}
	switch f.Numbers.Below(4) {
	case 0:
		*e = Field(Pick(f.Numbers, names))
	case 1:
		*e = api.Expr{Op: api.EHas, S: Pick(f.Numbers, names)}
	default:
		*e = f.Expr(1+f.Numbers.Below(3), 3)
	}
}
