package query

import (
	"arbor/api"
	"arbor/syntax"
)

// writer: the pieces of a query's text. If an expression has none, the first one's error is kept, and the pieces mean nothing.
type writer struct {
	pieces  []string
	refused api.Errno
}

func (w *writer) words(list ...string) {
	w.pieces = append(w.pieces, list...)
}

// exprs: one expression with the words that stand ahead of it, or none and no word.
func (w *writer) exprs(list []api.Expr, ahead ...string) {
	for _, e := range list {
		text, refused := syntax.PrintExpr(e)
		if w.refused == api.OK {
			w.refused = refused
		}
		w.words(ahead...)
		w.words(text)
	}
}
