package shell

import (
	"strconv"
	"strings"

	"arbor/api"
	"arbor/lower"
	"arbor/machine"
	"arbor/syntax"
	"arbor/value"
)

// getLine: a key's row.
type getLine struct {
	key string
}

func (getLine) read(l *line) command {
	return getLine{key: l.key()}
}

func (c getLine) play(s *session) string {
	row, e := s.store.Get(c.key)
	return rowOr(s.store.Schema(), row, e)
}

// scanLine: the entries of a range of keys.
type scanLine struct {
	lo, hi string
	limit  int
}

func (scanLine) read(l *line) command {
	return scanLine{lo: l.key(), hi: l.key(), limit: l.number()}
}

func (c scanLine) play(s *session) string {
	entries, e := s.store.Scan(c.lo, c.hi, c.limit)
	if e != api.OK {
		return fault(e)
	}
	schema := s.store.Schema()
	var text strings.Builder
	text.WriteString("rows " + strconv.Itoa(len(entries)))
	for _, entry := range entries {
		text.WriteString(" " + keyText(entry.Key) + " " + recordText(schema, entry.Vals))
	}
	return text.String()
}

// keyText: a key as a line may have it.
func keyText(key string) string {
	if isPlainKey(key) {
		return key
	}
	return value.Quote(key)
}

// seqLine: how many calls were accepted.
type seqLine struct{}

func (c seqLine) read(*line) command { return c }

func (seqLine) play(s *session) string {
	return "seq " + strconv.FormatUint(s.store.Seq(), 10)
}

// modeLine: what the store is.
type modeLine struct{}

func (c modeLine) read(*line) command { return c }

func (modeLine) play(s *session) string {
	switch s.store.Mode() {
	case api.ModeReadOnly:
		return "mode read only"
	case api.ModeDead:
		return "mode dead"
	}
	return "mode open"
}

// printLine: how a program is written plainly.
type printLine struct {
	source string
}

func (printLine) read(l *line) command {
	return printLine{source: l.rest()}
}

func (c printLine) play(*session) string {
	program, e, at := syntax.Parse(c.source)
	if e != api.OK {
		return faultAt(e, at)
	}
	// What was parsed has a text.
	text, _ := syntax.Print(program)
	return text
}

// compileLine: is it a program for the store's schema?
type compileLine struct {
	source string
}

func (compileLine) read(l *line) command {
	return compileLine{source: l.rest()}
}

func (c compileLine) play(s *session) string {
	if _, e, at := lower.Compile(s.store.Schema(), c.source); e != api.OK {
		return faultAt(e, at)
	}
	return done
}

// runLine: what a program makes of a row that stands in no store.
type runLine struct {
	row, source string
}

func (runLine) read(l *line) command {
	return runLine{row: l.row(), source: l.rest()}
}

func (c runLine) play(s *session) string {
	schema := s.store.Schema()
	row, e := rowOf(schema, c.row)
	if e != api.OK {
		return fault(e)
	}
	code, e, at := lower.Compile(schema, c.source)
	if e != api.OK {
		return faultAt(e, at)
	}
	row, e = machine.Exec(schema, code, row)
	return rowOr(schema, row, e)
}

// rowOf: what a text tells.
func rowOf(s api.Schema, text string) (api.Row, api.Errno) {
	if text == noRow {
		return api.Row{}, api.OK
	}
	vals, e := value.Parse(s, text)
	if e != api.OK {
		return api.Row{}, e
	}
	return api.Row{Here: true, Vals: vals}, api.OK
}
