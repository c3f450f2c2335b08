package typing

import (
	"cmp"

	"arbor/api"
)

// exprRule: what an operation asks of its kids, all of which fit by themselves, and what it is then.
type exprRule struct {
	fit func(e api.Expr, kids []kind) (kind, api.Errno)
}

// stmtRule: what an operation asks of its statement; the statements in an if have rules of their own.
type stmtRule struct {
	fit func(st api.Stmt) api.Errno
}

// judge: holds expressions and statements against one schema. Its tables are by operation.
type judge struct {
	fields map[string]kind
	exprs  []exprRule
	stmts  []stmtRule
}

func newJudge(s api.Schema) *judge {
	j := &judge{fields: map[string]kind{}}
	for _, f := range s.Fields {
		j.fields[f.Name] = kind{f.Type, f.Optional}
	}
	j.exprs, j.stmts = j.exprRules(), j.stmtRules()
	return j
}

func (j *judge) exprRules() []exprRule {
	return []exprRule{
		api.EInt:   {takes(api.Int)},
		api.EBool:  {takes(api.Bool)},
		api.EBytes: {takes(api.Bytes)},
		api.EField: {j.field},
		api.EHas:   {j.has},
		api.EHere:  {takes(api.Bool)},
		api.ENot:   {takes(api.Bool, api.Bool)},
		api.ENeg:   {takes(api.Int, api.Int)},
		api.EAdd:   {takes(api.Int, api.Int, api.Int)},
		api.ESub:   {takes(api.Int, api.Int, api.Int)},
		api.EMul:   {takes(api.Int, api.Int, api.Int)},
		api.ELt:    {compares(api.Int, api.Bytes)},
		api.ELe:    {compares(api.Int, api.Bytes)},
		api.EGt:    {compares(api.Int, api.Bytes)},
		api.EGe:    {compares(api.Int, api.Bytes)},
		api.EEq:    {compares(api.Int, api.Bool, api.Bytes)},
		api.ENe:    {compares(api.Int, api.Bool, api.Bytes)},
		api.EAnd:   {takes(api.Bool, api.Bool, api.Bool)},
		api.EOr:    {takes(api.Bool, api.Bool, api.Bool)},
		api.EElse:  {orElse},
		api.EMin:   {takes(api.Int, api.Int, api.Int)},
		api.EMax:   {takes(api.Int, api.Int, api.Int)},
		api.ELen:   {takes(api.Int, api.Bytes)},
		api.ECat:   {takes(api.Bytes, api.Bytes, api.Bytes)},
		api.EPick:  {pick},
	}
}

func (j *judge) stmtRules() []stmtRule {
	return []stmtRule{
		api.SSet:    {j.set},
		api.SAdd:    {j.change},
		api.SMin:    {j.change},
		api.SMax:    {j.change},
		api.SClear:  {j.clear},
		api.SNew:    {always},
		api.SDelete: {always},
		api.SIf:     {j.choose},
	}
}

// expr: what an expression is, or why it does not fit.
func (j *judge) expr(e api.Expr) (kind, api.Errno) {
	kids := make([]kind, len(e.Kids))
	for i, kid := range e.Kids {
		k, misfit := j.expr(kid)
		if misfit != api.OK {
			return kind{}, misfit
		}
		kids[i] = k
	}
	return j.exprs[e.Op].fit(e, kids)
}

// stmt: why a statement does not fit, or OK.
func (j *judge) stmt(st api.Stmt) api.Errno {
	return j.stmts[st.Op].fit(st)
}

func (j *judge) named(name string) (kind, api.Errno) {
	f, found := j.fields[name]
	return f, unless(found, api.ErrField)
}

func (j *judge) field(e api.Expr, _ []kind) (kind, api.Errno) {
	return j.named(e.S)
}

func (j *judge) has(e api.Expr, _ []kind) (kind, api.Errno) {
	f, unknown := j.named(e.S)
	return plain(api.Bool), cmp.Or(unknown, f.isOptional())
}

// takes: the rule of an operation whose kids are plain and each of one type, and which is plain.
func takes(is int, types ...int) func(api.Expr, []kind) (kind, api.Errno) {
	return func(_ api.Expr, kids []kind) (kind, api.Errno) {
		for i, kid := range kids {
			if misfit := kid.isPlain(types[i]); misfit != api.OK {
				return kind{}, misfit
			}
		}
		return plain(is), api.OK
	}
}

// compares: the rule of an operation that holds two plain ones of one type against each other.
func compares(types ...int) func(api.Expr, []kind) (kind, api.Errno) {
	return func(_ api.Expr, kids []kind) (kind, api.Errno) {
		return plain(api.Bool), cmp.Or(kids[0].isPlain(types...), kids[1].isPlain(kids[0].of))
	}
}

func orElse(_ api.Expr, kids []kind) (kind, api.Errno) {
	return plain(kids[0].of), cmp.Or(kids[0].isOptional(), kids[1].isPlain(kids[0].of))
}

func pick(_ api.Expr, kids []kind) (kind, api.Errno) {
	either := kids[1].of
	return plain(either), cmp.Or(kids[0].isPlain(api.Bool), kids[1].isPlain(either), kids[2].isPlain(either))
}

func (j *judge) set(st api.Stmt) api.Errno {
	f, unknown := j.named(st.Field)
	k, misfit := j.expr(st.Exprs[0])
	return cmp.Or(unknown, misfit, k.isOf(f.of), unless(!k.optional || f.optional, api.ErrOptional))
}

// change: the rule of +=, min= and max=.
func (j *judge) change(st api.Stmt) api.Errno {
	f, unknown := j.named(st.Field)
	k, misfit := j.expr(st.Exprs[0])
	return cmp.Or(unknown, misfit, f.isOf(api.Int), k.isPlain(api.Int))
}

func (j *judge) clear(st api.Stmt) api.Errno {
	f, unknown := j.named(st.Field)
	return cmp.Or(unknown, f.isOptional())
}

func always(api.Stmt) api.Errno {
	return api.OK
}

// choose: the rule of an if.
func (j *judge) choose(st api.Stmt) api.Errno {
	k, misfit := j.expr(st.Exprs[0])
	return cmp.Or(misfit, k.isPlain(api.Bool))
}
