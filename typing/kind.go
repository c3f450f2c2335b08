package typing

import (
	"cmp"
	"slices"

	"arbor/api"
)

// kind: what a field or an expression is: of a type, and without a value on some rows or never.
type kind struct {
	of       int
	optional bool
}

func plain(of int) kind {
	return kind{of: of}
}

// isOf: OK, if the type is one of these.
func (k kind) isOf(types ...int) api.Errno {
	return unless(slices.Contains(types, k.of), api.ErrType)
}

// isPlain: OK, if it is plain and of one of these types. A wrong type comes ahead.
func (k kind) isPlain(types ...int) api.Errno {
	return cmp.Or(k.isOf(types...), unless(!k.optional, api.ErrOptional))
}

// isOptional: OK, if it is optional, of whatever type.
func (k kind) isOptional() api.Errno {
	return unless(k.optional, api.ErrOptional)
}

// unless: OK, if something is right, else an error. Of several such answers the first error is the one to tell, which is cmp.Or of them: so a rule reads like its row in the chapter.
func unless(right bool, e api.Errno) api.Errno {
	if right {
		return api.OK
	}
	return e
}
