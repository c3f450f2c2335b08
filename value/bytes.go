package value

import (
	"arbor/api"
	"arbor/little"
)

// Encode: a record as bytes.
func Encode(s api.Schema, r []api.Value) ([]byte, api.Errno) {
	if e := Check(s, r); e != api.OK {
		return nil, e
	}
	size := head(s)
	b := make([]byte, size, width(s))
	marks, optional := uint64(0), 0
	for i, f := range s.Fields {
		if f.Optional {
			if r[i].Kind != api.None {
				marks |= 1 << optional
			}
			optional++
		}
		b = appendValue(b, r[i])
	}
	little.Put(b[:size], marks)
	return b, api.OK
}

// Decode: the record that some bytes are.
func Decode(s api.Schema, b []byte) ([]api.Value, api.Errno) {
	if e := CheckSchema(s); e != api.OK {
		return nil, e
	}
	r, ok := decode(s, b)
	if !ok {
		return nil, api.ErrBytes
	}
	return r, api.OK
}

func decode(s api.Schema, b []byte) (r []api.Value, ok bool) {
	size := head(s)
	if len(b) < size {
		return nil, false
	}
	marks, rest := little.Number(b[:size]), b[size:]
	r = make([]api.Value, len(s.Fields))
	for i, f := range s.Fields {
		if f.Optional {
			present := marks&1 == 1
			marks >>= 1
			if !present {
				continue
			}
		}
		if r[i], rest, ok = takeValue(f.Type, rest); !ok {
			return nil, false
		}
	}
	// A mark that is left over has no field: to take it would give one record two forms.
	return r, marks == 0 && len(rest) == 0
}

func appendValue(b []byte, v api.Value) []byte {
	switch v.Kind {
	case api.Int:
		return appendInt(b, v.N)
	case api.Bool:
		return append(b, byte(v.N))
	case api.Bytes:
		return little.AppendShort(b, v.S)
	}
	return b
}

// takeValue: the value of a type at the head of some bytes, and what stands behind it.
func takeValue(t int, b []byte) (v api.Value, rest []byte, ok bool) {
	switch t {
	case api.Int:
		return takeInt(b)
	case api.Bool:
		return takeBool(b)
	default:
		return takeBytes(b)
	}
}

// appendInt: the number is turned first, so that ints near 0 are short whatever their sign.
func appendInt(b []byte, n int64) []byte {
	u := uint64(n<<1) ^ uint64(n>>63)
	for u >= 128 {
		b = append(b, byte(u)|128)
		u >>= 7
	}
	return append(b, byte(u))
}

func takeInt(b []byte) (v api.Value, rest []byte, ok bool) {
	u := uint64(0)
	for i, c := range b {
		// Nine groups are 63 bits: of a tenth one just the lowest bit has room, and a group behind it none.
		if i == 9 && c > 1 {
			break
		}
		u |= uint64(c&127) << (7 * i)
		if c < 128 {
			needless := c == 0 && i > 0
			return api.Value{Kind: api.Int, N: int64(u>>1) ^ -int64(u&1)}, b[i+1:], !needless
		}
	}
	return api.Value{}, nil, false
}

func takeBool(b []byte) (v api.Value, rest []byte, ok bool) {
	if len(b) < 1 || b[0] > 1 {
		return api.Value{}, nil, false
	}
	return api.Value{Kind: api.Bool, N: int64(b[0])}, b[1:], true
}

func takeBytes(b []byte) (v api.Value, rest []byte, ok bool) {
	part, rest, ok := little.Short(b)
	if !ok || len(part) > api.MaxBytes {
		return api.Value{}, nil, false
	}
	return api.Value{Kind: api.Bytes, S: string(part)}, rest, true
}
