package dump

import (
	"iter"

	"arbor/api"
	"arbor/frame"
	"arbor/little"
	"arbor/value"
)

// What is read here may be of any bytes: whether they are a dump is told by Check.

// head: the schema and the number that the first frame tells.
func head(b []byte, size int) (s api.Schema, seq uint64, ok bool) {
	if len(b) < size {
		return api.Schema{}, 0, false
	}
	f, e := frame.Open(b[:size])
	if e != api.OK || len(f.Body) < numberBytes {
		return api.Schema{}, 0, false
	}
	s, e = value.ParseSchema(string(f.Body[numberBytes:]))
	return s, little.Number(f.Body[:numberBytes]), e == api.OK
}

// entries: those that the frames between the first and the last one tell, one by one, up to where none stands that may stand there.
func entries(b []byte, size int, s api.Schema) iter.Seq2[string, []api.Value] {
	return func(yield func(string, []api.Value) bool) {
		last := ""
		for number := 1; number < len(b)/size-1; number++ {
			// Of what is no frame the body has no bytes.
			f, _ := frame.Open(b[number*size : (number+1)*size])
			for rest := f.Body; len(rest) > 0; {
				entry, behind, ok := cut(rest, s)
				if !ok || entry.Key <= last || !yield(entry.Key, entry.Vals) {
					return
				}
				rest, last = behind, entry.Key
			}
		}
	}
}

// cut: the entry at the head of some bytes, and what stands behind it.
func cut(b []byte, s api.Schema) (entry api.Entry, behind []byte, ok bool) {
	key, rest, hasKey := little.Short(b)
	record, behind, hasRecord := little.Short(rest)
	if !hasKey || !hasRecord || len(key) > api.MaxKey {
		return api.Entry{}, nil, false
	}
	vals, e := value.Decode(s, record)
	return api.Entry{Key: string(key), Vals: vals}, behind, e == api.OK
}
