package query

import (
	"slices"

	"arbor/api"
	"arbor/typing"
)

// part: a part of a query that holds one expression or none, and the types that it may be of.
type part struct {
	exprs  []api.Expr
	wanted []int
}

// partsOf: in the order in which they are looked at.
func partsOf(q api.Query, v verb) []part {
	return []part{
		{exprs: q.Where, wanted: []int{api.Bool}},
		{exprs: q.Of, wanted: v.of},
		{exprs: q.By, wanted: []int{api.Int, api.Bool, api.Bytes}},
	}
}

func (p part) check(s api.Schema) api.Errno {
	for _, e := range p.exprs {
		of, optional, misfit := typing.Type(s, e)
		switch {
		case misfit != api.OK:
			return misfit
		case !slices.Contains(p.wanted, of):
			return api.ErrType
		case optional:
			return api.ErrOptional
		}
	}
	return api.OK
}
