package syntax

import "arbor/api"

// Where an operation's word or mark stands.
const (
	plain   = 1 // a literal, a field, has, here: it has no kids
	ahead   = 2 // ahead of its one kid
	between = 3 // between its two kids
	call    = 4 // ahead of its kids, which stand in parentheses
)

// The ends of the ranks. No expression has the one above all.
const (
	lowest   = 1
	highest  = 9
	aboveAll = 10
)

// form: how the expressions of an operation are written. A kid stands bare just if its rank is not below what its place wants: this is the grammar, told in numbers, so that the parser and the printer both go by it.
type form struct {
	shape int
	text  string
	kids  int
	rank  int
	left  int // the rank that the kid on the left has at least
	right int // likewise on the right
}

// forms: by operation.
var forms = [...]form{
	api.EInt:   {shape: plain, rank: highest},
	api.EBool:  {shape: plain, rank: highest},
	api.EBytes: {shape: plain, rank: highest},
	api.EField: {shape: plain, rank: highest},
	api.EHas:   {shape: plain, rank: highest},
	api.EHere:  {shape: plain, rank: highest},
	api.ENot:   {shape: ahead, text: "not", kids: 1, rank: 3, right: 3},
	api.ENeg:   {shape: ahead, text: "-", kids: 1, rank: 8, right: 8},
	api.EAdd:   {shape: between, text: "+", kids: 2, rank: 6, left: 6, right: 7},
	api.ESub:   {shape: between, text: "-", kids: 2, rank: 6, left: 6, right: 7},
	api.EMul:   {shape: between, text: "*", kids: 2, rank: 7, left: 7, right: 8},
	api.ELt:    {shape: between, text: "<", kids: 2, rank: 4, left: 5, right: 5},
	api.ELe:    {shape: between, text: "<=", kids: 2, rank: 4, left: 5, right: 5},
	api.EGt:    {shape: between, text: ">", kids: 2, rank: 4, left: 5, right: 5},
	api.EGe:    {shape: between, text: ">=", kids: 2, rank: 4, left: 5, right: 5},
	api.EEq:    {shape: between, text: "==", kids: 2, rank: 4, left: 5, right: 5},
	api.ENe:    {shape: between, text: "!=", kids: 2, rank: 4, left: 5, right: 5},
	api.EAnd:   {shape: between, text: "and", kids: 2, rank: 2, left: 2, right: 3},
	api.EOr:    {shape: between, text: "or", kids: 2, rank: 1, left: 1, right: 2},
	api.EElse:  {shape: between, text: "??", kids: 2, rank: 5, left: 6, right: 5},
	api.EMin:   {shape: call, text: "min", kids: 2, rank: highest},
	api.EMax:   {shape: call, text: "max", kids: 2, rank: highest},
	api.ELen:   {shape: call, text: "len", kids: 1, rank: highest},
	api.ECat:   {shape: call, text: "cat", kids: 2, rank: highest},
	api.EPick:  {shape: call, text: "pick", kids: 3, rank: highest},
}
