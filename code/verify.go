package code

import (
	"slices"

	"arbor/api"
	"arbor/value"
)

// place: of a code: may a run come by, what stands on the stack then, and did two ways bring unlike stacks?
type place struct {
	reached bool
	stack   []kind
	unlike  bool
}

// bring: a run might come by with such a stack. Places may share it, as nobody changes it.
func (p *place) bring(stack []kind) {
	p.unlike = p.unlike || p.reached && !slices.Equal(p.stack, stack)
	p.reached, p.stack = true, stack
}

// Verify: may a code be run on rows of a schema? The most values that can stand on the stack; or the error and the instruction's number.
func Verify(s api.Schema, is ...api.Ins) (deep int, at int, e api.Errno) {
	places, at, e := look(s, is)
	for _, p := range places {
		deep = max(deep, len(p.stack))
	}
	return deep, at, e
}

// Types: of a code that may be run: what stands on the stack ahead of each instruction and behind the last (i, b, s a value, from the lowest up; - where nothing comes by).
func Types(s api.Schema, is ...api.Ins) ([]string, api.Errno) {
	places, _, e := look(s, is)
	if e != api.OK {
		return nil, e
	}
	texts := make([]string, len(places))
	for at, p := range places {
		texts[at] = typesText(p)
	}
	return texts, api.OK
}

func typesText(p place) string {
	if !p.reached {
		return "-"
	}
	const letters = "-ibs"
	text := make([]byte, len(p.stack))
	for i, k := range p.stack {
		text[i] = letters[k]
	}
	return string(text)
}

// look: the places of a code that may be run; or the first thing that is wrong, and where.
func look(s api.Schema, is []api.Ins) ([]place, int, api.Errno) {
	if value.CheckSchema(s) != api.OK {
		return nil, 0, api.ErrSchema
	}
	if at, e := checkInstructions(s, is); e != api.OK {
		return nil, at, e
	}
	if at, e := checkTargets(is); e != api.OK {
		return nil, at, e
	}
	return follow(s, is)
}

// checkInstructions: what is wrong with their number, with one of them by itself, with the number of their bytes.
func checkInstructions(s api.Schema, is []api.Ins) (int, api.Errno) {
	if len(is) > api.MaxCode {
		return len(is), api.ErrCode
	}
	for at, ins := range is {
		if e := checkForm(ins); e != api.OK {
			return at, e
		}
		if !rightField(s, ins) {
			return at, api.ErrOperand
		}
	}
	if len(bytesOf(is)) > api.MaxCode {
		return len(is), api.ErrCode
	}
	return 0, api.OK
}

// rightField: if an instruction names a field, does the schema have it, and is it what the operation asks for?
func rightField(s api.Schema, ins api.Ins) bool {
	there := ins.N < int64(len(s.Fields))
	switch operations[ins.Op].operand {
	case fieldOperand:
		return there
	case optionalOperand:
		return there && s.Fields[ins.N].Optional
	case intOperand:
		return there && s.Fields[ins.N].Type == api.Int
	}
	return true
}

func checkTargets(is []api.Ins) (int, api.Errno) {
	for at, ins := range is {
		if isJump(ins) && target(at, ins) > len(is) {
			return at, api.ErrJump
		}
	}
	return 0, api.OK
}

// follow: all ways that a run might go, at one time: as jumps lead forward, all that is brought to a place is known when it has its turn.
func follow(s api.Schema, is []api.Ins) ([]place, int, api.Errno) {
	places := make([]place, len(is)+1)
	places[0].bring(nil)
	for at, ins := range is {
		p := places[at]
		if !p.reached {
			continue
		}
		stack, fits := behind(s, ins, p.stack)
		if p.unlike || !fits {
			return nil, at, api.ErrStack
		}
		if isJump(ins) {
			places[target(at, ins)].bring(stack)
		}
		if ins.Op != api.IJump {
			places[at+1].bring(stack)
		}
	}
	if last := places[len(is)]; last.unlike || len(last.stack) > 0 {
		return nil, len(is), api.ErrStack
	}
	return places, 0, api.OK
}

// behind: the stack behind an instruction, in new memory; and does the instruction fit the one ahead of it?
func behind(s api.Schema, ins api.Ins, stack []kind) (after []kind, fits bool) {
	o := operations[ins.Op]
	under := len(stack) - o.takes
	if under < 0 || !takesThese(s, ins, stack[under:]) {
		return nil, false
	}
	after = slices.Clone(stack[:under])
	if o.gives != noKind {
		after = append(after, ofField(s, ins, o.gives))
	}
	return after, len(after) <= api.MaxStack
}

// takesThese: are these values, as many as the operation takes, of one type, and that one that it takes?
func takesThese(s api.Schema, ins api.Ins, values []kind) bool {
	of := ofField(s, ins, operations[ins.Op].of)
	for _, k := range values {
		if k != values[0] || !allows(of, k) {
			return false
		}
	}
	return true
}

// ofField: fieldKind is the type of the field that the instruction names; every other kind is itself.
func ofField(s api.Schema, ins api.Ins, k kind) kind {
	if k == fieldKind {
		return kind(s.Fields[ins.N].Type)
	}
	return k
}

// allows: may a value of that type stand where such a kind is asked for?
func allows(of, k kind) bool {
	switch of {
	case orderKind:
		return k == intKind || k == bytesKind
	case anyKind:
		return true
	}
	return of == k
}
