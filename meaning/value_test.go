package meaning_test

import (
	"slices"
	"testing"

	"arbor/api"
	"arbor/drill"
	"arbor/meaning"
	"arbor/typing"
	"arbor/value"
)

// each: every list with one value out of each of some lists is handed on, the same memory each time.
func each(lists [][]api.Value, hand func([]api.Value)) {
	var fill func(list []api.Value)
	fill = func(list []api.Value) {
		if len(list) == len(lists) {
			hand(list)
			return
		}
		for _, v := range lists[len(list)] {
			fill(append(list, v))
		}
	}
	fill(make([]api.Value, 0, len(lists)))
}

// signSchema: a schema with a field for each kid of a sign.
func signSchema(kids string) api.Schema {
	var s api.Schema
	for i, letter := range kids {
		of, optional := drill.TypeOf(letter)
		s.Fields = append(s.Fields, api.Field{Name: "abc"[i : i+1], Type: of, Optional: optional})
	}
	return s
}

// P10.1: every operation over all values of its kids, which stand in fields, in literals, or in both.
func TestValueOfEveryOperation(t *testing.T) {
	for _, sign := range drill.Signs() {
		s := signSchema(sign.Kids)
		var lists [][]api.Value
		for _, f := range s.Fields {
			lists = append(lists, drill.Values(f.Type))
			if f.Optional {
				lists[len(lists)-1] = append(lists[len(lists)-1], api.Value{})
			}
		}
		each(lists, func(values []api.Value) {
			row := api.Row{Here: true, Vals: values}
			drill.Keeps(len(values), func(literal []bool) {
				e := api.Expr{Op: sign.Op}
				for i, f := range s.Fields {
					if literal[i] && !f.Optional {
						e.Kids = append(e.Kids, drill.Literal(values[i]))
					} else {
						e.Kids = append(e.Kids, drill.Field(f.Name))
					}
				}
				wantBookValue(t, s, e, row)
				wantBookValue(t, s, e, api.Row{})
			})
		})
	}
}

// P10.1: every expression without kids on rows of every kind.
func TestValueOfEveryLeaf(t *testing.T) {
	for _, s := range drill.Schemas() {
		leaves := []api.Expr{drill.Here()}
		for _, of := range []int{api.Int, api.Bool, api.Bytes} {
			for _, v := range drill.Values(of) {
				leaves = append(leaves, drill.Literal(v))
			}
		}
		for _, f := range s.Fields {
			leaves = append(leaves, drill.Field(f.Name))
			if f.Optional {
				leaves = append(leaves, api.Expr{Op: api.EHas, S: f.Name})
			}
		}
		for _, row := range drill.Rows(s) {
			for _, leaf := range leaves {
				wantBookValue(t, s, leaf, row)
			}
		}
	}
}

// Where there is no record each field is worth what the zero record says, and none is present.
func TestValueWithoutRecord(t *testing.T) {
	for _, s := range drill.Schemas() {
		for place, zero := range value.Zero(s) {
			wantValue(t, s, drill.Field(s.Fields[place].Name), api.Row{}, zero, api.OK)
			if s.Fields[place].Optional {
				wantValue(t, s, api.Expr{Op: api.EHas, S: s.Fields[place].Name}, api.Row{}, truth(false), api.OK)
			}
		}
		wantValue(t, s, drill.Here(), api.Row{}, truth(false), api.OK)
		wantValue(t, s, drill.Here(), api.Row{Here: true, Vals: value.Zero(s)}, truth(true), api.OK)
	}
}

// Wrapped: sums, differences, products of ints around powers of two.
func TestValuesWrapRound(t *testing.T) {
	s := drill.SchemaOf("a:int,b:int")
	var ints []int64
	for _, bits := range []int{0, 1, 7, 8, 31, 32, 33, 61, 62, 63} {
		for by := int64(-1); by <= 1; by++ {
			ints = append(ints, 1<<bits+by, -1<<bits+by)
		}
	}
	slices.Sort(ints)
	drill.Scripts(slices.Compact(ints), 2, func(pair []int64) {
		row := api.Row{Here: true, Vals: []api.Value{number(pair[0]), number(pair[1])}}
		for _, op := range []int{api.EAdd, api.ESub, api.EMul, api.EMin, api.EMax, api.ELt} {
			wantBookValue(t, s, drill.Tree(op, drill.Field("a"), drill.Field("b")), row)
		}
		wantBookValue(t, s, drill.Tree(api.ENeg, drill.Field("a")), row)
	})
}

// Bytewise: every byte beside others, and every two short texts.
func TestBytesAreComparedBytewise(t *testing.T) {
	s := drill.SchemaOf("a:bytes,b:bytes")
	want := func(a, b string) {
		t.Helper()
		row := api.Row{Here: true, Vals: []api.Value{text(a), text(b)}}
		for _, op := range []int{api.ELt, api.ELe, api.EGt, api.EGe, api.EEq, api.ENe} {
			wantBookValue(t, s, drill.Tree(op, drill.Field("a"), drill.Field("b")), row)
		}
	}
	for b := range 256 {
		for _, other := range []int{0, 1, 127, 128, 255, b, (b + 1) % 256} {
			want(string([]byte{byte(b)}), string([]byte{byte(other)}))
			want(string([]byte{'k', byte(b), 'z'}), string([]byte{'k', byte(other)}))
		}
	}
	var texts []string
	for length := range 4 {
		drill.Scripts([]byte{0, 'a', 0xff}, length, func(script []byte) { texts = append(texts, string(script)) })
	}
	drill.Scripts(texts, 2, func(pair []string) { want(pair[0], pair[1]) })
}

// cat of all lengths keeps the first MaxBytes bytes.
func TestCatOfAllLengths(t *testing.T) {
	s := drill.SchemaOf("a:bytes,b:bytes")
	for a := range api.MaxBytes + 1 {
		for b := range api.MaxBytes + 1 {
			first, second := "ABCDEFGHIJKLMNOPQRST"[:a], "abcdefghijklmnopqrst"[:b]
			row := api.Row{Here: true, Vals: []api.Value{text(first), text(second)}}
			e := drill.ExprOf("cat(a, b)")
			wantBookValue(t, s, e, row)
			wantValue(t, s, e, row, text((first + second)[:min(a+b, api.MaxBytes)]), api.OK)
			wantValue(t, s, drill.ExprOf("cat(cat(a, b), a) == cat(a, cat(b, a))"), row, truth(true), api.OK)
		}
	}
}

// P10.1, P10.4: deep expressions on all kinds of rows.
func TestValueOfDeepExprs(t *testing.T) {
	numbers := drill.Numbers(101)
	for _, s := range drill.Schemas() {
		fitting := drill.Fitting{Schema: s, Numbers: &numbers}
		greatest, worth := 0, map[api.Value]int{}
		for i := range 5000 {
			e := fitting.Expr(1+i%3, 2+i%6)
			greatest = max(greatest, len(drill.ExprParts([]api.Expr{e})))
			for range 3 {
				row := fitting.Row()
				wantBookValue(t, s, e, row)
				v, _ := meaning.Value(s, e, row)
				worth[v]++
			}
		}
		if greatest < 50 || len(worth) < 100 {
			t.Errorf("the greatest expression has %d parts; there were %d values", greatest, len(worth))
		}
	}
}

// R1: as deep and as wide as an expression may be.
func TestGreatestExprs(t *testing.T) {
	s := drill.Schemas()[0]
	sum, all := drill.Number(3), drill.Field("on")
	for range api.MaxDepth - 1 {
		sum, all = drill.Tree(api.EAdd, sum, sum), drill.Tree(api.EPick, all, all, all)
	}
	for _, row := range []api.Row{{}, drill.RowOf(s, "{on=true}"), drill.RowOf(s, "{}")} {
		wantValue(t, s, sum, row, number(3<<11), api.OK)
		wantValue(t, s, all, row, truth(row.Here && row.Vals[2].N == 1), api.OK)
		wantValue(t, s, drill.Nested(api.ENot, api.MaxDepth-1, drill.Here()), row, truth(!row.Here), api.OK)
	}
}

// P10.1: the errors of what is one part away from an expression that fits are those of typing, ahead of the row's.
func TestErrorsOfValueAreThoseOfType(t *testing.T) {
	numbers := drill.Numbers(102)
	for _, s := range drill.Schemas() {
		fitting := drill.Fitting{Schema: s, Numbers: &numbers}
		met := map[api.Errno]int{}
		for i := range 3000 {
			list := []api.Expr{fitting.Expr(1+i%3, 2+i%4)}
			fitting.Spoil(drill.Pick(&numbers, drill.ExprParts(list)))
			_, _, errno := typing.Type(s, list[0])
			met[errno]++
			if errno == api.OK {
				wantBookValue(t, s, list[0], fitting.Row())
				errno = api.ErrValue
			} else {
				wantValue(t, s, list[0], fitting.Row(), api.Value{}, errno)
			}
			wantValue(t, s, list[0], api.Row{Here: true}, api.Value{}, errno)
		}
		for _, errno := range []api.Errno{api.OK, api.ErrField, api.ErrType, api.ErrOptional} {
			if met[errno] == 0 {
				t.Errorf("no expression answered %d: %v", errno, met)
			}
		}
	}
}

// P10.1 to P10.3: a row that is none of the schema, wherever it is wrong, in fields that nobody asks for too.
func TestWrongRows(t *testing.T) {
	for _, s := range drill.Schemas() {
		for _, row := range drill.WrongRows(s) {
			for _, src := range []string{"here", "1", "n", "has tag"} {
				wantValue(t, s, drill.ExprOf(src), row, api.Value{}, api.ErrValue)
			}
			for _, src := range []string{"", "new", "delete", "n += 1", "if here { delete }"} {
				wantRun(t, s, drill.ProgramOf(src), row, api.Row{}, api.ErrValue)
				wantChain(t, s, row, api.Row{}, api.ErrValue, drill.ProgramOf("delete"), drill.ProgramOf(src))
			}
			wantChain(t, s, row, api.Row{}, api.ErrValue)
		}
	}
}

// P10.1, R9: a schema that is none comes ahead of all, then what is wrong with the tree, then what does not fit, then the row.
func TestOrderOfErrorsOfValue(t *testing.T) {
	s := drill.Schemas()[0]
	right, wrong := drill.RowOf(s, "{n=1}"), api.Row{Vals: []api.Value{number(1)}}
	for _, row := range []api.Row{right, wrong} {
		for _, w := range drill.WrongExprs() {
			wantValue(t, s, w.Part, row, api.Value{}, w.Errno)
			wantValue(t, api.Schema{}, w.Part, row, api.Value{}, api.ErrSchema)
		}
		for _, none := range drill.WrongSchemas() {
			for _, src := range []string{"1", "n", "x", "m + on"} {
				wantValue(t, none, drill.ExprOf(src), row, api.Value{}, api.ErrSchema)
			}
		}
		wantValue(t, s, drill.ExprOf("x"), row, api.Value{}, api.ErrField)
		wantValue(t, s, drill.ExprOf("not n"), row, api.Value{}, api.ErrType)
		wantValue(t, s, drill.ExprOf("-m"), row, api.Value{}, api.ErrOptional)
	}
	wantValue(t, s, drill.ExprOf("n"), wrong, api.Value{}, api.ErrValue)
}
