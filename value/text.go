package value

import (
	"strconv"
	"strings"

	"arbor/api"
	"arbor/words"
)

// PrintSchema: a schema as text.
func PrintSchema(s api.Schema) (string, api.Errno) {
	if e := CheckSchema(s); e != api.OK {
		return "", e
	}
	pieces := make([]string, len(s.Fields))
	for i, f := range s.Fields {
		pieces[i] = f.Name + ":" + types[f.Type].word
		if f.Optional {
			pieces[i] += "?"
		}
	}
	return strings.Join(pieces, ","), api.OK
}

// ParseSchema: the schema that a text means.
func ParseSchema(text string) (api.Schema, api.Errno) {
	var s api.Schema
	for more := true; more; {
		var piece string
		piece, text, more = strings.Cut(text, ",")
		f, ok := parseField(piece)
		if !ok {
			return api.Schema{}, api.ErrText
		}
		// One field too many is enough to be refused for; the text is looked at to its end all the same, as its form comes first.
		if len(s.Fields) <= api.MaxFields {
			s.Fields = append(s.Fields, f)
		}
	}
	if e := CheckSchema(s); e != api.OK {
		return api.Schema{}, e
	}
	return s, api.OK
}

func parseField(piece string) (f api.Field, ok bool) {
	end := words.Run(piece)
	word, ok := strings.CutPrefix(piece[end:], ":")
	if end == 0 || !ok {
		return api.Field{}, false
	}
	word, optional := strings.CutSuffix(word, "?")
	t, ok := typeCalled(word)
	// The name is copied: else it would keep the whole text in memory.
	return api.Field{Name: strings.Clone(piece[:end]), Type: t, Optional: optional}, ok
}

func typeCalled(word string) (t int, ok bool) {
	for t := api.Int; t <= api.Bytes; t++ {
		if types[t].word == word {
			return t, true
		}
	}
	return 0, false
}

// Print: a record as text.
func Print(s api.Schema, r []api.Value) (string, api.Errno) {
	if e := Check(s, r); e != api.OK {
		return "", e
	}
	var items []string
	for i, f := range s.Fields {
		if r[i].Kind != api.None {
			items = append(items, f.Name+"="+printValue(r[i]))
		}
	}
	return "{" + strings.Join(items, ",") + "}", api.OK
}

func printValue(v api.Value) string {
	switch v.Kind {
	case api.Int:
		return strconv.FormatInt(v.N, 10)
	case api.Bool:
		return strconv.FormatBool(v.N == 1)
	default:
		return Quote(v.S)
	}
}

// Parse: the record that a text means.
func Parse(s api.Schema, text string) ([]api.Value, api.Errno) {
	if e := CheckSchema(s); e != api.OK {
		return nil, e
	}
	r, ok := parseItems(s, text)
	if !ok {
		return nil, api.ErrText
	}
	return r, api.OK
}

// parseItems goes through the fields, not the items: as these come in the fields' order, each field's item stands ahead of the rest or is left out.
func parseItems(s api.Schema, text string) (r []api.Value, ok bool) {
	rest, ok := strings.CutPrefix(text, "{")
	if !ok {
		return nil, false
	}
	r = zero(s)
	comma := ""
	for i, f := range s.Fields {
		written, found := strings.CutPrefix(rest, comma+f.Name+"=")
		if !found {
			continue
		}
		if r[i], rest, ok = parseValue(f.Type, written); !ok {
			return nil, false
		}
		comma = ","
	}
	return r, rest == "}"
}

// parseValue: the value of a type at the head of a text, and what stands behind it.
func parseValue(t int, text string) (v api.Value, rest string, ok bool) {
	switch t {
	case api.Int:
		return parseInt(text)
	case api.Bool:
		return parseBool(text)
	default:
		return parseBytes(text)
	}
}

// parseInt takes just what Print writes: strconv would take a + and needless zeros too.
func parseInt(text string) (v api.Value, rest string, ok bool) {
	rest = strings.TrimLeft(text, "-0123456789")
	digits := text[:len(text)-len(rest)]
	n, err := strconv.ParseInt(digits, 10, 64)
	if err != nil || strconv.FormatInt(n, 10) != digits {
		return api.Value{}, "", false
	}
	return api.Value{Kind: api.Int, N: n}, rest, true
}

func parseBool(text string) (v api.Value, rest string, ok bool) {
	if rest, ok = strings.CutPrefix(text, "true"); ok {
		return api.Value{Kind: api.Bool, N: 1}, rest, true
	}
	rest, ok = strings.CutPrefix(text, "false")
	return api.Value{Kind: api.Bool}, rest, ok
}

func parseBytes(text string) (v api.Value, rest string, ok bool) {
	b, taken, e := Unquote(text)
	if e != api.OK {
		return api.Value{}, "", false
	}
	return api.Value{Kind: api.Bytes, S: b}, text[taken:], true
}
