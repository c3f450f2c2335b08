package query

import (
	"arbor/api"
	"arbor/syntax"
)

// noLimit: of rows.
const noLimit = -1

// reader: the tokens of a text, gone through from the left. It takes none with which no query goes on: so where it is lost the next token is the one that is wrong, and from there on it takes nothing.
type reader struct {
	text   string
	tokens []api.Token // behind them, as a token of no kind, the text's end
	at     int         // which token is the next one
	lost   bool
	deep   bool // one of the expressions is too deep: this is told only if nothing else is wrong
}

func newReader(text string, tokens []api.Token) *reader {
	return &reader{text: text, tokens: append(tokens, api.Token{At: len(text)})}
}

func (r *reader) next() api.Token { return r.tokens[r.at] }

// takes: is the next token of this kind and text? Then it is taken.
func (r *reader) takes(kind int, text string) bool {
	t := r.next()
	found := !r.lost && t.Kind == kind && t.Text == text
	if found {
		r.at++
	}
	return found
}

func (r *reader) takesName(text string) bool { return r.takes(api.TokName, text) }

func (r *reader) query() api.Query {
	q := api.Query{}
	if r.takesName(wordWhere) {
		q.Where = r.expr()
	}
	v := r.verb()
	q.Kind = v.kind
	if len(v.of) > 0 {
		q.Of = r.expr()
	}
	if v.kind == api.QRows {
		r.rows(&q)
	}
	r.finish()
	return q
}

func (r *reader) verb() verb {
	for _, v := range verbs() {
		if r.takes(v.token, v.word) {
			return v
		}
	}
	r.lost = true
	return verb{}
}

// rows: what may come behind that verb.
func (r *reader) rows(q *api.Query) {
	if r.takesName(wordBy) {
		q.By = r.expr()
		q.Down = r.takesName(wordDown)
	}
	q.Limit = noLimit
	if r.takesName(wordLimit) {
		q.Limit = r.number()
	}
}

func (r *reader) number() int {
	t := r.next()
	if t.Kind != api.TokInt || t.N < 0 {
		r.lost = true
		return 0
	}
	r.at++
	return int(t.N)
}

// expr: the longest expression from the next token on. It ends where it cannot go on: what a query has behind an expression, none goes on with.
func (r *reader) expr() []api.Expr {
	rest := r.text[r.next().At:]
	tree, e, end := syntax.ParseExpr(rest)
	if e == api.ErrSyntax {
		tree, e, _ = syntax.ParseExpr(rest[:end])
	} else {
		end = len(rest)
	}
	r.lost = e == api.ErrSyntax
	r.deep = r.deep || e == api.ErrDepth
	r.skip(len(r.text) - len(rest) + end)
	return []api.Expr{tree}
}

// skip: all tokens ahead of a place are taken.
func (r *reader) skip(place int) {
	for r.next().At < place {
		r.at++
	}
}

// finish: nothing may stand behind a query.
func (r *reader) finish() {
	if r.at < len(r.tokens)-1 {
		r.lost = true
	}
}
