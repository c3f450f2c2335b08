package typing_test

import (
	"slices"
	"strings"
	"testing"

	"arbor/api"
	"arbor/drill"
	"arbor/syntax"
	"arbor/typing"
)

// everyStmt: each statement over each name and each kind of expression, the blocks of ifs empty.
func everyStmt(s api.Schema) []api.Stmt {
	list := []api.Stmt{{Op: api.SNew}, {Op: api.SDelete}}
	exprs := append(leavesOf(s), kindsOf(s)...)
	for _, name := range namesOf(s) {
		list = append(list, api.Stmt{Op: api.SClear, Field: name})
		for _, op := range []int{api.SSet, api.SAdd, api.SMin, api.SMax} {
			for _, e := range exprs {
				list = append(list, api.Stmt{Op: op, Field: name, Exprs: []api.Expr{e}})
			}
		}
	}
	for _, e := range exprs {
		list = append(list, drill.Choice(e, nil, nil))
	}
	return list
}

// P9.2: every statement, in every kind of place.
func TestCheckOfEveryStmt(t *testing.T) {
	news := []api.Stmt{{Op: api.SNew}}
	for _, s := range drill.Schemas() {
		outcomes := map[api.Errno]int{}
		for _, st := range everyStmt(s) {
			alone := []api.Stmt{st}
			wantBookCheck(t, s, alone)
			errno, _ := typing.Check(s, alone)
			outcomes[errno]++
			for number, p := range [][]api.Stmt{ // in each of them the statement has its program's place as its number
				{st, {Op: api.SNew}},
				{{Op: api.SNew}, st},
				{drill.Choice(drill.Here(), news, alone)},
				{drill.Choice(drill.Here(), news, news), st},
				{drill.Choice(drill.Here(), []api.Stmt{{Op: api.SNew}, drill.Choice(drill.Here(), news, alone)}, news)},
			} {
				if errno == api.OK {
					number = 0
				}
				wantCheck(t, s, p, errno, number)
			}
		}
		for _, errno := range []api.Errno{api.OK, api.ErrField, api.ErrType, api.ErrOptional} {
			if outcomes[errno] == 0 {
				t.Errorf("no statement answered %d", errno)
			}
		}
	}
}

// P9.2: an if whose condition does not fit is told ahead of what stands in it; of what stands in it the first one is told.
func TestCheckOfEveryIf(t *testing.T) {
	s := drill.SchemaOf("n:int,m:int?,on:bool,off:bool?")
	conditions := []api.Expr{drill.Here(), drill.Field("on"), drill.Field("off"), drill.Field("n"), drill.Field("m"), drill.Field("x"), drill.ExprOf("off == m")}
	blocks := [][]api.Stmt{nil, drill.ProgramOf("new"), drill.ProgramOf("n = m"), drill.ProgramOf("new; on = 1"), drill.ProgramOf("if off { x = 1 }"), drill.ProgramOf("if on { x = 1 } else { clear n }; clear x")}
	for _, e := range conditions {
		drill.Scripts(blocks, 3, func(script [][]api.Stmt) {
			wantBookCheck(t, s, append([]api.Stmt{drill.Choice(e, script[0], script[1])}, script[2]...))
		})
	}
}

// planted: a statement that does not fit, as it is written.
type planted struct {
	text  string
	errno api.Errno
}

// writer: writes the text of a program and counts its statements as they begin.
type writer struct {
	numbers *drill.Numbers
	begun   int
	plants  map[int]planted // by the number that they are to have, if a statement of that number may be anything
	first   int             // the number of the first one that was written
	errno   api.Errno       // and its error
}

func (w *writer) list(deep int) string {
	var texts []string
	for range 1 + w.numbers.Below(3) {
		texts = append(texts, w.stmt(deep))
	}
	return strings.Join(texts, ";")
}

func (w *writer) stmt(deep int) string {
	w.begun++
	if p, there := w.plants[w.begun-1]; there {
		if w.errno == api.OK {
			w.first, w.errno = w.begun-1, p.errno
		}
		return p.text
	}
	if deep == 0 || w.numbers.Below(2) == 0 {
		return drill.Pick(w.numbers, []string{"new", "delete", "clear m", "n+=1", "m=m", "m min=3", "if on{}"})
	}
	text := "if here{" + w.list(deep-1) + "}"
	switch w.numbers.Below(3) {
	case 0:
		text += "else{" + w.list(deep-1) + "}"
	case 1:
		w.begun++
		text += "else if on{" + w.list(deep-1) + "}else{" + w.list(deep-1) + "}"
	}
	return text
}

// Statements are numbered in the order in which they begin in the text, and the first of those that do not fit is told.
func TestNumbersOfStatements(t *testing.T) {
	s := drill.SchemaOf(exampleSchema)
	numbers := drill.Numbers(92)
	misfits := []planted{
		{"n=m", api.ErrOptional}, {"x=1", api.ErrField}, {"n=on", api.ErrType}, {"clear n", api.ErrOptional}, {"clear x", api.ErrField},
		{"on+=1", api.ErrType}, {"n max=m", api.ErrOptional}, {"if n{x=1}", api.ErrType}, {"if x{n=on}else{clear n}", api.ErrField},
	}
	found := map[int]int{}
	for range 20000 {
		first, second := numbers.Below(12), numbers.Below(24)
		w := writer{numbers: &numbers, plants: map[int]planted{first: drill.Pick(&numbers, misfits)}}
		if numbers.Below(2) == 0 {
			w.plants[second] = drill.Pick(&numbers, misfits)
		}
		p, e, _ := syntax.Parse(w.list(3))
		if e != api.OK {
			continue
		}
		wantCheck(t, s, p, w.errno, w.first)
		wantFieldsRefused(t, s, p, w.errno)
		if w.errno != api.OK {
			found[w.first]++
		}
	}
	if len(found) < 12 {
		t.Errorf("misfits were met at the numbers %v alone", found)
	}
}

// P9.2: programs that fit, and those that are one part away from them.
func TestCheckOfDeepPrograms(t *testing.T) {
	numbers := drill.Numbers(29)
	for _, s := range drill.Schemas() {
		fitting := drill.Fitting{Schema: s, Numbers: &numbers}
		refused := map[api.Errno]int{}
		for i := range 3000 {
			p := fitting.Program(2 + i%4)
			wantBookCheck(t, s, p)
			if syntax.Check(p) == api.OK {
				wantCheck(t, s, p, api.OK, 0)
			}
			p = drill.Copied(p)
			exprs, stmts := drill.Parts(p)
			for range 1 + i%2 {
				if len(exprs) > 0 && numbers.Below(2) == 0 {
					fitting.Spoil(drill.Pick(&numbers, exprs))
				} else if len(stmts) > 0 {
					drill.Pick(&numbers, stmts).Field = drill.Pick(&numbers, namesOf(s))
				}
			}
			wantBookCheck(t, s, p)
			errno, _ := typing.Check(s, p)
			refused[errno]++
		}
		for _, errno := range []api.Errno{api.OK, api.ErrTree, api.ErrField, api.ErrType, api.ErrOptional} {
			if refused[errno] == 0 {
				t.Errorf("no program answered %d: %v", errno, refused)
			}
		}
	}
}

// P9.2, R9: a schema that is none comes ahead of all, then what is wrong with the tree, both with the number 0.
func TestOrderOfErrorsOfCheck(t *testing.T) {
	s := drill.Schemas()[0]
	for _, wrong := range drill.WrongPrograms() {
		wantCheck(t, s, wrong.Part, wrong.Errno, 0)
		wantCheck(t, api.Schema{}, wrong.Part, api.ErrSchema, 0)
		wantFields(t, s, wrong.Part, nil, nil, wrong.Errno)
		wantFields(t, api.Schema{}, wrong.Part, nil, nil, api.ErrSchema)
	}
	for _, wrong := range drill.WrongSchemas() {
		for _, src := range []string{"", "new", "n = 1", "new; x = 1"} {
			wantCheck(t, wrong, drill.ProgramOf(src), api.ErrSchema, 0)
			wantFields(t, wrong, drill.ProgramOf(src), nil, nil, api.ErrSchema)
		}
	}
}

// P9.2: as many statements as may be, as deep as may be, and a misfit in the last of them.
func TestLimitsOfPrograms(t *testing.T) {
	s := drill.Schemas()[0]
	for number := range api.MaxStmts {
		p := slices.Repeat([]api.Stmt{{Op: api.SNew}}, api.MaxStmts)
		wantCheck(t, s, p, api.OK, 0)
		p[number] = drill.Change(api.SSet, "n", drill.Field("on"))
		wantCheck(t, s, p, api.ErrType, number)
	}
	p := []api.Stmt{{Op: api.SClear, Field: "n"}}
	for depth := range api.MaxDepth - 1 {
		p = []api.Stmt{drill.Choice(drill.Here(), p, nil)}
		wantCheck(t, s, p, api.ErrOptional, depth+1)
		wantCheck(t, s, []api.Stmt{drill.Change(api.SSet, "on", drill.Nested(api.ENot, depth, drill.Field("off")))}, api.ErrOptional, 0)
		wantCheck(t, s, []api.Stmt{drill.Change(api.SSet, "off", drill.Nested(api.ENot, depth, drill.Field("on")))}, api.OK, 0)
	}
}
