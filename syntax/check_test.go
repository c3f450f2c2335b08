package syntax_test

import (
	"slices"
	"strings"
	"testing"

	"arbor/api"
	"arbor/drill"
	"arbor/syntax"
)

// wantWrong: no text means such an expression, alone or in any place of a program.
func wantWrong(t *testing.T, e api.Expr) {
	t.Helper()
	text, errno := syntax.PrintExpr(e)
	if check := syntax.CheckExpr(e); check != api.ErrTree || errno != api.ErrTree || text != "" {
		t.Errorf("of %+v: CheckExpr = %d, PrintExpr = %q, %d", e, check, text, errno)
	}
	for _, around := range []api.Expr{tree(api.ENot, e), tree(api.EAdd, e, here()), tree(api.EAdd, here(), e), tree(api.EPick, here(), here(), e)} {
		if check := syntax.CheckExpr(around); check != api.ErrTree {
			t.Errorf("of %+v: CheckExpr = %d", around, check)
		}
	}
	wantWrongProgram(t, list(set("n", e)))
	wantWrongProgram(t, list(choice(e, nil, nil)))
}

// wantWrongProgram: likewise a program.
func wantWrongProgram(t *testing.T, p []api.Stmt) {
	t.Helper()
	for _, around := range [][]api.Stmt{p, append(list(news()), p...), append(slices.Clone(p), news()), list(choice(here(), p, nil)), list(choice(here(), nil, p)), list(choice(here(), list(news(), choice(here(), nil, p)), nil))} {
		text, e := syntax.Print(around)
		if check := syntax.Check(around); check != api.ErrTree || e != api.ErrTree || text != "" {
			t.Errorf("of %+v: Check = %d, Print = %q, %d", around, check, text, e)
		}
	}
}

// P8.3: every operation, with any number of kids, any N and any S.
func TestEveryExpr(t *testing.T) {
	kids := []api.Expr{field("a"), number(1), here(), boolean(1), bytes("x")}
	texts := []string{"", "a", "_9", "abcdefgh", "abcdefghi", "9a", "min", "Min", "a b", "é", "\x00", strings.Repeat("x", 20), strings.Repeat("x", 21), strings.Repeat("x", 1000)}
	for op := -2; op < 30; op++ {
		for count := range 6 {
			for _, n := range []int64{0, 1, 2, -1, 1<<63 - 1, -1 << 63} {
				for _, s := range texts {
					wantPrintExpr(t, api.Expr{Op: op, N: n, S: s, Kids: kids[:count]})
				}
			}
		}
	}
	for _, op := range []int{-1 << 63, 1<<63 - 1, 1 << 32, 1<<32 + api.EHere, 256 + api.EHere, -api.EHere} {
		wantWrong(t, api.Expr{Op: op})
	}
}

// P8.3: every operation of statements, with any parts.
func TestEveryStmt(t *testing.T) {
	for op := -2; op < 12; op++ {
		for _, name := range []string{"", "n", "_", "abcdefgh", "abcdefghi", "0", "if", "a-b", strings.Repeat("n", 1000)} {
			for exprs := range 4 {
				drill.Scripts([]bool{false, true}, 3, func(parts []bool) {
					s := api.Stmt{Op: op, Field: name, Exprs: []api.Expr{here(), field("a"), number(1)}[:exprs]}
					if parts[0] {
						s.Then = list(news())
					}
					if parts[1] {
						s.Else = list(clears("t"))
					}
					if parts[2] && exprs > 0 {
						s.Exprs = append([]api.Expr{{Op: api.EInt, S: "x"}}, s.Exprs[1:]...)
					}
					wantPrint(t, list(s))
				})
			}
		}
	}
	for _, op := range []int{-1 << 63, 1<<63 - 1, 1<<32 + api.SNew, 256 + api.SNew, -api.SNew} {
		wantWrongProgram(t, list(api.Stmt{Op: op}))
	}
}

// P8.3: names of one byte and what is near to names.
func TestNamesInTrees(t *testing.T) {
	for c := range 256 {
		one := string([]byte{byte(c)})
		for _, name := range []string{one, "a" + one, "abcdefg" + one, one + "a"} {
			wantPrintExpr(t, field(name))
			wantPrintExpr(t, has(name))
			wantPrint(t, list(clears(name)))
			wantPrint(t, list(set(name, number(1))))
		}
	}
	for word := range strings.FieldsSeq("and cat clear delete else false has here if len max min new not or pick true") {
		wantWrong(t, field(word))
		wantWrong(t, has(word))
		wantWrongProgram(t, list(clears(word)))
		for op := api.SSet; op <= api.SMax; op++ {
			wantWrongProgram(t, list(change(op, word, number(1))))
		}
		wantPrintExpr(t, field(word+"_"))
		wantPrintExpr(t, has(strings.ToUpper(word)))
	}
}

// P8.3: bytes of any content, up to 20 of them.
func TestBytesInTrees(t *testing.T) {
	for c := range 256 {
		for size := range 23 {
			wantPrintExpr(t, bytes(strings.Repeat(string([]byte{byte(c)}), size)))
		}
	}
	wantWrong(t, bytes(strings.Repeat("x", 1<<20)))
}

// P8.3: one wrong part, wherever it stands, makes the whole wrong.
func TestOneWrongPart(t *testing.T) {
	numbers := drill.Numbers(83)
	for range 2000 {
		p := anyProgram(&numbers, 5)
		exprs, stmts := drill.Parts(p)
		if len(stmts) == 0 {
			continue
		}
		if i := numbers.Below(len(stmts) + len(exprs)); i < len(stmts) {
			spoilStmt(&numbers, stmts[i])
		} else {
			spoilExpr(&numbers, exprs[i-len(stmts)])
		}
		wantPrint(t, p)
	}
}

func spoilExpr(numbers *drill.Numbers, e *api.Expr) {
	switch numbers.Below(5) {
	case 0:
		e.Op = numbers.Below(40) - 5
	case 1:
		e.N++
	case 2:
		e.S += "x"
	case 3:
		e.Kids = append(e.Kids, number(1))
	case 4:
		e.Kids = e.Kids[:len(e.Kids)/2]
	}
}

func spoilStmt(numbers *drill.Numbers, s *api.Stmt) {
	switch numbers.Below(6) {
	case 0:
		s.Op = numbers.Below(14) - 2
	case 1:
		s.Field += "x"
	case 2:
		s.Field = ""
	case 3:
		s.Exprs = append(s.Exprs, number(1))
	case 4:
		s.Exprs = nil
	case 5:
		s.Else = append(s.Else, news())
	}
}

func times[Part any](count int, part Part) []Part {
	return slices.Repeat([]Part{part}, count)
}

// P8.3: the limits, just at them and one above.
func TestLimitsOfTrees(t *testing.T) {
	for count := 30; count < 36; count++ {
		wantPrint(t, times(count, news()))
		wantPrint(t, list(choice(here(), times(count-1, news()), nil)))
		wantPrint(t, list(choice(here(), nil, times(count-1, news()))))
		wantPrint(t, list(choice(here(), times(10, clears("t")), times(count-11, news()))))
	}
	for deep := 8; deep < 16; deep++ {
		for op := api.ENot; op <= api.EPick; op++ {
			for place := range bookKids(op) {
				e := field("a")
				for range deep - 2 {
					kids := times(bookKids(op), number(1))
					kids[place] = e
					e = tree(op, kids...)
				}
				wantPrintExpr(t, tree(api.ENot, e))
				wantPrint(t, list(news(), set("n", e)))
				wantPrint(t, list(choice(e, nil, nil), news()))
			}
		}
		then, otherwise := list(news()), list(clears("t"))
		for range deep - 1 {
			then, otherwise = list(deletes(), choice(here(), then, nil)), list(choice(here(), nil, otherwise))
		}
		wantPrint(t, then)
		wantPrint(t, otherwise)
		wantPrint(t, append(otherwise, then...))
	}
}

// P8.3: of several errors: a tree that is not well made, too many statements, too great a depth.
func TestOrderOfErrorsOfTrees(t *testing.T) {
	deep := nested(api.ENot, 12, here())
	wrong := nested(api.ENot, 20, api.Expr{})
	for _, x := range []struct {
		p []api.Stmt
		e api.Errno
	}{
		{append(times(33, news()), api.Stmt{}), api.ErrTree},
		{append(list(api.Stmt{}), times(33, news())...), api.ErrTree},
		{append(times(33, news()), set("n", wrong)), api.ErrTree},
		{append(list(set("n", deep)), choice(here(), nil, list(api.Stmt{Op: 9}))), api.ErrTree},
		{append(times(32, news()), set("n", deep)), api.ErrMany},
		{append(list(set("n", deep)), times(32, news())...), api.ErrMany},
		{append(list(set("n", deep)), times(31, news())...), api.ErrDepth},
		{list(choice(deep, nil, nil)), api.ErrDepth},
	} {
		text, e := syntax.Print(x.p)
		if check := syntax.Check(x.p); check != x.e || e != x.e || text != "" {
			t.Errorf("Check = %d, Print = %q, %d, want %d", check, text, e, x.e)
		}
	}
	wantWrong(t, wrong)
	if check := syntax.CheckExpr(tree(api.EAdd, deep, api.Expr{})); check != api.ErrTree {
		t.Errorf("of a deep tree that is not well made CheckExpr = %d", check)
	}
}

// P8.3: trees far above the limits are looked at whole, and no call panics.
func TestVeryGreatTrees(t *testing.T) {
	const much = 1 << 16
	deep, wrong := nested(api.ENot, much, here()), nested(api.ENot, much, api.Expr{})
	ifs, wrongIfs := list(news()), list(api.Stmt{})
	for range much {
		ifs, wrongIfs = list(choice(here(), ifs, nil)), list(choice(here(), nil, wrongIfs))
	}
	for _, x := range []struct {
		p []api.Stmt
		e api.Errno
	}{
		{list(set("n", deep)), api.ErrDepth},
		{list(set("n", wrong)), api.ErrTree},
		{ifs, api.ErrMany},
		{wrongIfs, api.ErrTree},
		{times(much*2, news()), api.ErrMany},
		{append(times(much*2, news()), api.Stmt{}), api.ErrTree},
		{list(api.Stmt{Op: api.SSet, Field: "n", Exprs: times(much*2, here())}), api.ErrTree},
		{list(set("n", api.Expr{Op: api.EPick, Kids: times(much*2, here())})), api.ErrTree},
		{list(choice(here(), times(much, news()), times(much, news()))), api.ErrMany},
	} {
		text, e := syntax.Print(x.p)
		if check := syntax.Check(x.p); check != x.e || e != x.e || text != "" {
			t.Errorf("Check = %d, Print = %.20q, %d, want %d", check, text, e, x.e)
		}
	}
	if e, errno := syntax.CheckExpr(deep), syntax.CheckExpr(wrong); e != api.ErrDepth || errno != api.ErrTree {
		t.Errorf("CheckExpr of deep trees = %d, %d", e, errno)
	}
}

// R4: a list that is nil and one without elements are the same.
func TestEmptyListsAreNone(t *testing.T) {
	empty := api.Stmt{Op: api.SNew, Exprs: []api.Expr{}, Then: []api.Stmt{}, Else: []api.Stmt{}}
	bare := choice(api.Expr{Op: api.EHere, Kids: []api.Expr{}}, []api.Stmt{}, []api.Stmt{})
	wantPrint(t, list(empty, bare))
	wantPrint(t, []api.Stmt{})
}
