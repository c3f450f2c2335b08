package typing_test

import (
	"slices"
	"strings"
	"testing"

	"arbor/api"
	"arbor/drill"
	"arbor/syntax"
	"arbor/typing"
)

// everyStmt: each statement over each name and each kind of expression, the blocks of ifs empty.
func everyStmt(s api.Schema) []api.Stmt {
	list := []api.Stmt{{Op: api.SNew}, {Op: api.SDelete}}
	exprs := append(leavesOf(s), kindsOf(s)...)
	for _, name := range namesOf(s) {
		list = append(list, api.Stmt{Op: api.SClear, Field: name})
		for _, op := range []int{api.SSet, api.SAdd, api.SMin, api.SMax} {
			for _, e := range exprs {
				list = append(list, api.Stmt{Op: op, Field: name, Exprs: []api.Expr{e}})
			}
		}
	}
	for _, e := range exprs {
		list = append(list, choice(e, nil, nil))
	}
	return list
}

// P9.2: every statement, in every kind of place.
func TestCheckOfEveryStmt(t *testing.T) {
	news := []api.Stmt{{Op: api.SNew}}
	for _, s := range schemas(t) {
		outcomes := map[api.Errno]int{}
		for _, st := range everyStmt(s) {
			alone := []api.Stmt{st}
			wantBookCheck(t, s, alone)
			errno, _ := typing.Check(s, alone)
			outcomes[errno]++
			for number, p := range [][]api.Stmt{ // in each of them the statement has its program's place as its number
				{st, {Op: api.SNew}},
				{{Op: api.SNew}, st},
				{choice(here(), news, alone)},
				{choice(here(), news, news), st},
				{choice(here(), []api.Stmt{{Op: api.SNew}, choice(here(), news, alone)}, news)},
			} {
				if errno == api.OK {
					number = 0
				}
				wantCheck(t, s, p, errno, number)
			}
		}
		for _, errno := range []api.Errno{api.OK, api.ErrField, api.ErrType, api.ErrOptional} {
			if outcomes[errno] == 0 {
				t.Errorf("no statement answered %d", errno)
			}
		}
	}
}

// P9.2: an if whose condition does not fit is told ahead of what stands in it; of what stands in it the first one is told.
func TestCheckOfEveryIf(t *testing.T) {
	s := schemaOf(t, "n:int,m:int?,on:bool,off:bool?")
	conditions := []api.Expr{here(), field("on"), field("off"), field("n"), field("m"), field("x"), exprOf(t, "off == m")}
	blocks := [][]api.Stmt{nil, programOf(t, "new"), programOf(t, "n = m"), programOf(t, "new; on = 1"), programOf(t, "if off { x = 1 }"), programOf(t, "if on { x = 1 } else { clear n }; clear x")}
	for _, e := range conditions {
		drill.Scripts(blocks, 3, func(script [][]api.Stmt) {
			wantBookCheck(t, s, append([]api.Stmt{choice(e, script[0], script[1])}, script[2]...))
		})
	}
}

// planted: a statement that does not fit, as it is written.
type planted struct {
	text  string
	errno api.Errno
}

// writer: writes the text of a program and counts its statements as they begin.
type writer struct {
	numbers *drill.Numbers
	begun   int
	plants  map[int]planted // by the number that they are to have, if a statement of that number may be anything
	first   int             // the number of the first one that was written
	errno   api.Errno       // and its error
}

func (w *writer) list(deep int) string {
	var texts []string
	for range 1 + w.numbers.Below(3) {
		texts = append(texts, w.stmt(deep))
	}
	return strings.Join(texts, ";")
}

func (w *writer) stmt(deep int) string {
	w.begun++
	if p, there := w.plants[w.begun-1]; there {
		if w.errno == api.OK {
			w.first, w.errno = w.begun-1, p.errno
		}
		return p.text
	}
	if deep == 0 || w.numbers.Below(2) == 0 {
		return pickOne(w.numbers, []string{"new", "delete", "clear m", "n+=1", "m=m", "m min=3", "if on{}"})
	}
	text := "if here{" + w.list(deep-1) + "}"
	switch w.numbers.Below(3) {
	case 0:
		text += "else{" + w.list(deep-1) + "}"
	case 1:
		w.begun++
		text += "else if on{" + w.list(deep-1) + "}else{" + w.list(deep-1) + "}"
	}
	return text
}

// Statements are numbered in the order in which they begin in the text, and the first of those that do not fit is told.
func TestNumbersOfStatements(t *testing.T) {
	s := schemaOf(t, exampleSchema)
	numbers := drill.Numbers(92)
	misfits := []planted{
		{"n=m", api.ErrOptional}, {"x=1", api.ErrField}, {"n=on", api.ErrType}, {"clear n", api.ErrOptional}, {"clear x", api.ErrField},
		{"on+=1", api.ErrType}, {"n max=m", api.ErrOptional}, {"if n{x=1}", api.ErrType}, {"if x{n=on}else{clear n}", api.ErrField},
	}
	found := map[int]int{}
	for range 20000 {
		first, second := numbers.Below(12), numbers.Below(24)
		w := writer{numbers: &numbers, plants: map[int]planted{first: pickOne(&numbers, misfits)}}
		if numbers.Below(2) == 0 {
			w.plants[second] = pickOne(&numbers, misfits)
		}
		p, e, _ := syntax.Parse(w.list(3))
		if e != api.OK {
			continue
		}
		wantCheck(t, s, p, w.errno, w.first)
		wantFieldsRefused(t, s, p, w.errno)
		if w.errno != api.OK {
			found[w.first]++
		}
	}
	if len(found) < 12 {
		t.Errorf("misfits were met at the numbers %v alone", found)
	}
}

// P9.2: programs that fit, and those that are one part away from them.
func TestCheckOfDeepPrograms(t *testing.T) {
	numbers := drill.Numbers(29)
	for _, s := range schemas(t) {
		refused := map[api.Errno]int{}
		for i := range 3000 {
			p := fittingProgram(&numbers, s, 2+i%4)
			wantBookCheck(t, s, p)
			if syntax.Check(p) == api.OK {
				wantCheck(t, s, p, api.OK, 0)
			}
			p = drill.Copied(p)
			exprs, stmts := drill.Parts(p)
			for range 1 + i%2 {
				if len(exprs) > 0 && numbers.Below(2) == 0 {
					spoil(&numbers, s, pickOne(&numbers, exprs))
				} else if len(stmts) > 0 {
					pickOne(&numbers, stmts).Field = pickOne(&numbers, namesOf(s))
				}
			}
			wantBookCheck(t, s, p)
			errno, _ := typing.Check(s, p)
			refused[errno]++
		}
		for _, errno := range []api.Errno{api.OK, api.ErrTree, api.ErrField, api.ErrType, api.ErrOptional} {
			if refused[errno] == 0 {
				t.Errorf("no program answered %d: %v", errno, refused)
			}
		}
	}
}

// wrongPrograms: what syntax.Check refuses, by its error.
func wrongPrograms() map[api.Errno][][]api.Stmt {
	misfit, news := api.Stmt{Op: api.SClear, Field: "x"}, api.Stmt{Op: api.SNew}
	ifs := []api.Stmt{misfit}
	for range 1 << 16 {
		ifs = []api.Stmt{choice(here(), ifs, nil)}
	}
	wrong := map[api.Errno][][]api.Stmt{
		api.ErrMany: {
			slices.Repeat([]api.Stmt{misfit}, 33), slices.Repeat([]api.Stmt{news}, 1<<17), ifs,
			{misfit, choice(here(), slices.Repeat([]api.Stmt{news}, 15), slices.Repeat([]api.Stmt{news}, 16))},
		},
		api.ErrTree: {
			{{}}, {misfit, {}}, {{Op: 9}}, {{Op: -1 << 63}}, {{Op: api.SSet, Field: "n"}}, {{Op: api.SSet, Exprs: []api.Expr{number(1)}}},
			{{Op: api.SNew, Field: "n"}}, {{Op: api.SDelete, Exprs: []api.Expr{here()}}}, {{Op: api.SClear, Field: "if"}}, {{Op: api.SIf}},
			{{Op: api.SNew, Then: []api.Stmt{news}}}, {{Op: api.SClear, Field: "m", Else: []api.Stmt{news}}},
			{misfit, choice(here(), []api.Stmt{misfit, {}}, nil)}, append(slices.Repeat([]api.Stmt{news}, 1<<17), api.Stmt{}),
		},
	}
	for errno, list := range wrongExprs() {
		for _, e := range list {
			wrong[errno] = append(wrong[errno], []api.Stmt{misfit, set("n", e)}, []api.Stmt{choice(here(), nil, []api.Stmt{choice(e, nil, nil)})})
		}
	}
	wrong[api.ErrDepth] = append(wrong[api.ErrDepth], []api.Stmt{misfit, set("on", nested(api.ENot, 11, here()))})
	return wrong
}

// P9.2, R9: a schema that is none comes ahead of all, then what is wrong with the tree, both with the number 0.
func TestOrderOfErrorsOfCheck(t *testing.T) {
	s := schemaOf(t, intsSchema)
	for errno, list := range wrongPrograms() {
		for _, p := range list {
			if got := syntax.Check(p); got != errno {
				t.Fatalf("syntax.Check of %+v = %d", p, got)
			}
			wantCheck(t, s, p, errno, 0)
			wantCheck(t, api.Schema{}, p, api.ErrSchema, 0)
			wantFields(t, s, p, nil, nil, errno)
			wantFields(t, api.Schema{}, p, nil, nil, api.ErrSchema)
		}
	}
	for _, wrong := range wrongSchemas() {
		for _, src := range []string{"", "new", "n = 1", "new; x = 1"} {
			wantCheck(t, wrong, programOf(t, src), api.ErrSchema, 0)
			wantFields(t, wrong, programOf(t, src), nil, nil, api.ErrSchema)
		}
	}
}

// P9.2: as many statements as may be, as deep as may be, and a misfit in the last of them.
func TestLimitsOfPrograms(t *testing.T) {
	s := schemaOf(t, intsSchema)
	for number := range api.MaxStmts {
		p := slices.Repeat([]api.Stmt{{Op: api.SNew}}, api.MaxStmts)
		wantCheck(t, s, p, api.OK, 0)
		p[number] = set("n", field("on"))
		wantCheck(t, s, p, api.ErrType, number)
	}
	p := []api.Stmt{{Op: api.SClear, Field: "n"}}
	for depth := range api.MaxDepth - 1 {
		p = []api.Stmt{choice(here(), p, nil)}
		wantCheck(t, s, p, api.ErrOptional, depth+1)
		wantCheck(t, s, []api.Stmt{set("on", nested(api.ENot, depth, field("off")))}, api.ErrOptional, 0)
		wantCheck(t, s, []api.Stmt{set("off", nested(api.ENot, depth, field("on")))}, api.OK, 0)
	}
}
