package drill

import (
	"maps"
	"math"
	"slices"
	"strconv"
	"strings"

	"arbor/api"
	"arbor/lower"
	"arbor/meaning"
	"arbor/value"
)

// ChangeOf: the change of a text: put, delete or upsert, a key without a blank, and then the record of a put or the source of an upsert.
func ChangeOf(s api.Schema, text string) api.Change {
	word, rest, _ := strings.Cut(text, " ")
	key, body, _ := strings.Cut(rest, " ")
	switch word {
	case "put":
		return api.Change{Kind: api.MPut, Key: key, Vals: RowOf(s, body).Vals}
	case "upsert":
		return api.Change{Kind: api.MUpsert, Key: key, Src: body}
	case "delete":
		return api.Change{Kind: api.MDelete, Key: key}
	}
	panic("drill: no change: " + text)
}

// ShownChange: what ChangeOf is given, with the key as a literal; of a change that may not be, too, all that it is.
func ShownChange(s api.Schema, c api.Change) string {
	key := value.Quote(c.Key)
	switch {
	case c.Kind == api.MPut && c.Src == "":
		return "put " + key + " " + ShownRow(s, api.Row{Here: true, Vals: c.Vals})
	case c.Kind == api.MDelete && len(c.Vals) == 0 && c.Src == "":
		return "delete " + key
	case c.Kind == api.MUpsert && len(c.Vals) == 0:
		return "upsert " + key + " " + c.Src
	}
	return "no change of " + key + ", of kind " + strconv.Itoa(c.Kind) + ", with " + strconv.Itoa(len(c.Vals)) + " values and the source " + value.Quote(c.Src)
}

// ShownChanges: the first nine of a list.
func ShownChanges(s api.Schema, cs []api.Change) string {
	text := ""
	for _, c := range cs[:min(len(cs), 9)] {
		text += ShownChange(s, c) + " | "
	}
	return text
}

// PlayChanges: what changes make of the rows by their keys, one behind the other, all of which may be. An upsert does what its program means.
func PlayChanges(s api.Schema, rows map[string]api.Row, cs ...api.Change) map[string]api.Row {
	rows = maps.Clone(rows)
	for _, c := range cs {
		switch c.Kind {
		case api.MPut:
			rows[c.Key] = api.Row{Here: true, Vals: slices.Clone(c.Vals)}
		case api.MDelete:
			rows[c.Key] = api.Row{}
		default:
			row, e := meaning.Run(s, ProgramOf(c.Src), rows[c.Key])
			must(e, "change", c.Src)
			rows[c.Key] = row
		}
	}
	return rows
}

// Source: of a program that the compiler takes.
func (f Fitting) Source() string {
	for {
		src := Shown(f.Program(2 + f.Numbers.Below(4)))
		if _, e, _ := lower.Compile(f.Schema, src); e == api.OK {
			return src
		}
	}
}

// Change: one of a key for rows of the schema.
func (f Fitting) Change(key string) api.Change {
	switch f.Numbers.Below(6) {
	case 0, 1:
		return api.Change{Kind: api.MPut, Key: key, Vals: f.Record()}
	case 2:
		return api.Change{Kind: api.MDelete, Key: key}
	}
	return api.Change{Kind: api.MUpsert, Key: key, Src: f.Source()}
}

// WrongChanges: what a store of that schema refuses. Some have further faults, behind the one that is to be told.
func WrongChanges(s api.Schema) []Wrong[api.Change] {
	record, long := Records(s)[0], strings.Repeat("k", 17)
	var list []Wrong[api.Change]
	add := func(e api.Errno, kind int, key string, vals []api.Value, src string) {
		list = append(list, Wrong[api.Change]{api.Change{Kind: kind, Key: key, Vals: vals, Src: src}, e})
	}
	for _, key := range []string{"", long, strings.Repeat("k", 1<<20)} {
		for _, kind := range []int{api.MPut, api.MDelete, api.MUpsert, 0, 4} {
			add(api.ErrKey, kind, key, nil, "")
			add(api.ErrKey, kind, key, record, "n +")
		}
	}
	for _, kind := range []int{0, 4, -1, 255, 257, 1 << 40, math.MinInt, math.MaxInt} {
		add(api.ErrMessage, kind, "k", nil, "")
		add(api.ErrMessage, kind, "k", record, "new")
	}
	add(api.ErrMessage, api.MPut, "k", record, "new")
	add(api.ErrMessage, api.MPut, "k", nil, "n +")
	add(api.ErrMessage, api.MDelete, "k", record, "")
	add(api.ErrMessage, api.MDelete, "k", nil, "new")
	add(api.ErrMessage, api.MDelete, "k", make([]api.Value, 1), " ")
	add(api.ErrMessage, api.MUpsert, "k", record, "new")
	add(api.ErrMessage, api.MUpsert, "k", make([]api.Value, 1), "n +")
	for _, vals := range WrongRecords(s) {
		add(api.ErrValue, api.MPut, "k", vals, "")
	}
	for _, w := range wrongSources() {
		add(w.Errno, api.MUpsert, "k", nil, w.Part)
	}
	return list
}

// wrongSources: of a schema that has an int n, an optional bytes tag, and no field x.
func wrongSources() []Wrong[string] {
	return []Wrong[string]{
		{strings.Repeat(" ", 257), api.ErrSource}, {strings.Repeat("x", 1<<20), api.ErrSource}, {"\xff", api.ErrUTF8}, {"$", api.ErrToken},
		{"n = 99999999999999999999", api.ErrNumber}, {`tag = "`, api.ErrString}, {"n +", api.ErrSyntax}, {"n = " + strings.Repeat("-", 12) + "n", api.ErrDepth},
		{strings.Repeat("new;", 32) + "new", api.ErrMany}, {"x = 1", api.ErrField}, {"n = tag", api.ErrType}, {"n = len(tag)", api.ErrOptional},
		{strings.Repeat(`tag = "01234567890123456789";`, 4) + `tag = "01234567890123456789"`, api.ErrBig},
	}
}
