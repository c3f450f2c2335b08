package syntax

import "arbor/api"

// parser: the tokens of a source, gone through from the left. It takes none with which no program goes on: so where it gives up, by a panic that the face catches, the next token is the one that is wrong.
type parser struct {
	tokens []api.Token // behind them, as a token of no kind, the source's end
	at     int         // which token is the next one
	begun  int         // how many statements have begun
	extra  int         // where the first token of the one that is too many stands; 0 if none is
}

func newParser(tokens []api.Token, length int) *parser {
	return &parser{tokens: append(tokens, api.Token{At: length})}
}

func (p *parser) next() api.Token { return p.tokens[p.at] }

// is: is the next token this keyword or mark? (A literal may have the same text.)
func (p *parser) is(text string) bool {
	t := p.next()
	return (t.Kind == api.TokWord || t.Kind == api.TokMark) && t.Text == text
}

// takes: if it is, it is taken.
func (p *parser) takes(text string) bool {
	found := p.is(text)
	if found {
		p.at++
	}
	return found
}

func (p *parser) demand(text string) {
	if !p.takes(text) {
		panic(api.ErrSyntax)
	}
}

func (p *parser) name() string {
	t := p.next()
	if t.Kind != api.TokName {
		panic(api.ErrSyntax)
	}
	p.at++
	return t.Text
}

// finish: nothing may stand behind what was parsed.
func (p *parser) finish() {
	if p.at < len(p.tokens)-1 {
		panic(api.ErrSyntax)
	}
}

// list ends ahead of the first token that can't be in it: whether one that ends a list stands there is seen by who asked for it.
func (p *parser) list() []api.Stmt {
	var list []api.Stmt
	for p.atStatement() {
		list = append(list, p.statement())
		if !p.takes(";") {
			break
		}
	}
	return list
}

func (p *parser) block() []api.Stmt {
	p.demand("{")
	list := p.list()
	p.demand("}")
	return list
}

func (p *parser) atStatement() bool {
	return p.next().Kind == api.TokName || p.is("clear") || p.is("new") || p.is("delete") || p.is("if")
}

func (p *parser) statement() api.Stmt {
	p.begin()
	switch {
	case p.takes("clear"):
		return api.Stmt{Op: api.SClear, Field: p.name()}
	case p.takes("new"):
		return api.Stmt{Op: api.SNew}
	case p.takes("delete"):
		return api.Stmt{Op: api.SDelete}
	case p.takes("if"):
		return p.choice()
	}
	field := p.name()
	op := p.becomes()
	return api.Stmt{Op: op, Field: field, Exprs: []api.Expr{p.expr(lowest)}}
}

// begin only notes that a statement is too many: an error of the grammar comes first, wherever it stands.
func (p *parser) begin() {
	if p.begun == api.MaxStmts {
		p.extra = p.next().At
	}
	p.begun++
}

// becomes: what stands between a field and the expression that changes it.
func (p *parser) becomes() int {
	op := api.SSet
	switch {
	case p.takes("+="):
		return api.SAdd
	case p.takes("min"):
		op = api.SMin
	case p.takes("max"):
		op = api.SMax
	}
	p.demand("=")
	return op
}

// choice: what comes behind an "if".
func (p *parser) choice() api.Stmt {
	s := api.Stmt{Op: api.SIf, Exprs: []api.Expr{p.expr(lowest)}}
	s.Then = p.block()
	if !p.takes("else") {
		return s
	}
	if p.is("if") {
		s.Else = []api.Stmt{p.statement()}
	} else {
		s.Else = p.block()
	}
	return s
}

// expr: the longest expression whose rank is at least the one wanted.
func (p *parser) expr(want int) api.Expr {
	e, rank := p.operand(want)
	for {
		op := p.operator()
		f := forms[op]
		if f.rank < want || f.left > rank {
			return e
		}
		p.at++
		e, rank = api.Expr{Op: op, Kids: []api.Expr{e, p.expr(f.right)}}, f.rank
	}
}

// operator: the operation whose word or mark stands between two operands and comes next; 0 if there is none.
func (p *parser) operator() int {
	for op, f := range forms {
		if f.shape == between && p.is(f.text) {
			return op
		}
	}
	return 0
}

// operand: an expression that no operator parts, and its rank.
func (p *parser) operand(want int) (api.Expr, int) {
	not, neg := forms[api.ENot], forms[api.ENeg]
	if want <= not.rank && p.takes(not.text) {
		return api.Expr{Op: api.ENot, Kids: []api.Expr{p.expr(not.right)}}, not.rank
	}
	if p.takes(neg.text) {
		return p.negative(neg.right), neg.rank
	}
	return p.primary(), highest
}

// negative: what comes behind a "-" that is ahead of one.
func (p *parser) negative(want int) api.Expr {
	if t := p.next(); t.Kind == api.TokInt {
		// The great number is the least int already, whose negation is itself.
		return p.leaf(api.Expr{Op: api.EInt, N: -t.N})
	}
	return api.Expr{Op: api.ENeg, Kids: []api.Expr{p.expr(want)}}
}

// leaf: what the next token alone means, which is taken.
func (p *parser) leaf(e api.Expr) api.Expr {
	p.at++
	return e
}

func (p *parser) primary() api.Expr {
	t := p.next()
	switch {
	case t.Kind == api.TokInt && t.N >= 0:
		return p.leaf(api.Expr{Op: api.EInt, N: t.N})
	case t.Kind == api.TokString:
		return p.leaf(api.Expr{Op: api.EBytes, S: t.Text})
	case t.Kind == api.TokName:
		return p.leaf(api.Expr{Op: api.EField, S: t.Text})
	case p.takes("true"):
		return api.Expr{Op: api.EBool, N: 1}
	case p.takes("false"):
		return api.Expr{Op: api.EBool}
	case p.takes("has"):
		return api.Expr{Op: api.EHas, S: p.name()}
	case p.takes("here"):
		return api.Expr{Op: api.EHere}
	case p.takes("("):
		e := p.expr(lowest)
		p.demand(")")
		return e
	}
	return p.call()
}

func (p *parser) call() api.Expr {
	for op, f := range forms {
		if f.shape == call && p.takes(f.text) {
			return api.Expr{Op: op, Kids: p.arguments(f.kids)}
		}
	}
	panic(api.ErrSyntax)
}

func (p *parser) arguments(count int) []api.Expr {
	kids := make([]api.Expr, count)
	mark := "("
	for i := range kids {
		p.demand(mark)
		kids[i] = p.expr(lowest)
		mark = ","
	}
	p.demand(")")
	return kids
}
