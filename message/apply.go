package message

import (
	"slices"

	"arbor/api"
	"arbor/machine"
)

// Apply: what a message makes of its key's row.
func Apply(s api.Schema, row api.Row, m api.Message) (api.Row, api.Errno) {
	return ApplyAll(s, row, m)
}

// ApplyAll: likewise of messages, one behind the other.
func ApplyAll(s api.Schema, row api.Row, ms ...api.Message) (api.Row, api.Errno) {
	for _, m := range ms {
		if e := Check(s, m); e != api.OK {
			return api.Row{}, e
		}
	}
	own, e := copied(s, row)
	if e != api.OK {
		return api.Row{}, e
	}
	for _, m := range ms {
		own = effect(s, own, m)
	}
	return own, api.OK
}

// copied: the row in other memory. The code without instructions leaves it as it is, so that the machine tells what is no row of the schema.
func copied(s api.Schema, row api.Row) (api.Row, api.Errno) {
	return machine.Exec(s, nil, row)
}

// effect: what a message makes of a row, both of which may be; so the machine has nothing to refuse.
func effect(s api.Schema, row api.Row, m api.Message) api.Row {
	switch m.Kind {
	case api.MPut:
		return api.Row{Here: true, Vals: slices.Clone(m.Vals)}
	case api.MDelete:
		return api.Row{}
	default:
		row, _ = machine.Exec(s, m.Code, row)
		return row
	}
}
