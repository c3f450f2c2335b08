package drill

import (
	"maps"
	"math"
	"slices"
	"strings"

	"arbor/api"
)

// Rows: no record, and each of Records.
func Rows(s api.Schema) []api.Row {
	rows := []api.Row{{}}
	for _, record := range Records(s) {
		rows = append(rows, api.Row{Here: true, Vals: record})
	}
	return rows
}

// Rows: one without a record, one of all zeros, one with all fields, and so many more.
func (f Fitting) Rows(more int) []api.Row {
	records := Records(f.Schema)
	rows := []api.Row{{}, {Here: true, Vals: records[1]}, {Here: true, Vals: records[2]}, {Here: true, Vals: records[len(records)-3]}}
	for range more {
		rows = append(rows, f.Row())
	}
	return rows
}

// SameRow: have two rows the same record, or both none?
func SameRow(a, b api.Row) bool {
	return a.Here == b.Here && slices.Equal(a.Vals, b.Vals)
}

// EntriesOf: those of the rows by their keys, within a range, in their order.
func EntriesOf(rows map[string]api.Row, lo, hi string) []api.Entry {
	var list []api.Entry
	for _, key := range slices.Sorted(maps.Keys(rows)) {
		if rows[key].Here && key >= lo && (hi == "" || key < hi) {
			list = append(list, api.Entry{Key: key, Vals: rows[key].Vals})
		}
	}
	return list
}

// SameEntries: are two lists of entries alike?
func SameEntries(a, b []api.Entry) bool {
	return slices.EqualFunc(a, b, func(a, b api.Entry) bool { return a.Key == b.Key && slices.Equal(a.Vals, b.Vals) })
}

// WrongRecords: lists of values that are no records of a schema.
func WrongRecords(s api.Schema) [][]api.Value {
	record := Records(s)[0]
	lists := [][]api.Value{nil, record[1:], record[:len(record)-1], append(slices.Clone(record), api.Value{}), make([]api.Value, 1<<17)}
	for place, f := range s.Fields {
		for _, v := range WrongValues(f) {
			vals := slices.Clone(record)
			vals[place] = v
			lists = append(lists, vals)
		}
	}
	return lists
}

// WrongRows: none of them is a row of a schema.
func WrongRows(s api.Schema) []api.Row {
	record := Records(s)[0]
	rows := []api.Row{{Vals: record}, {Vals: record[:1]}, {Vals: make([]api.Value, 1)}, {Vals: make([]api.Value, len(record))}, {Vals: make([]api.Value, 1<<17)}}
	for _, vals := range WrongRecords(s) {
		rows = append(rows, api.Row{Here: true, Vals: vals})
	}
	return rows
}

// WrongValues: they fit no such field.
func WrongValues(f api.Field) []api.Value {
	list := []api.Value{
		{Kind: -1}, {Kind: 4}, {Kind: 1 << 40}, {Kind: math.MaxInt}, {Kind: math.MinInt}, {N: 1}, {S: "x"}, {Kind: api.Int, S: "x"},
		{Kind: api.Bool, N: 2}, {Kind: api.Bool, N: -1}, {Kind: api.Bool, N: math.MinInt64}, {Kind: api.Bool, S: "x"},
		{Kind: api.Bytes, N: 1}, {Kind: api.Bytes, S: strings.Repeat("a", 21)}, {Kind: api.Bytes, S: strings.Repeat("a", 1<<20)},
	}
	for of := api.None; of <= api.Bytes; of++ {
		if of != f.Type && (of != api.None || !f.Optional) {
			list = append(list, api.Value{Kind: of})
		}
	}
	return list
}
