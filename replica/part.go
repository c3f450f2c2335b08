package replica

import (
	"arbor/api"
	"arbor/frame"
	"arbor/little"
	"arbor/value"
)

// kindPart: of the frames that are parts.
const kindPart byte = 'R'

// The bytes of the length of a source.
const sourceBytes = 2

// partOf: the part of an accepted call of a store of the schema.
func partOf(s api.Schema, number uint64, cs []api.Change) []byte {
	body := []byte{byte(len(cs))}
	for _, c := range cs {
		body = little.AppendShort(append(body, byte(c.Kind)), c.Key)
		switch c.Kind {
		case api.MPut:
			record, _ := value.Encode(s, c.Vals)
			body = little.AppendShort(body, record)
		case api.MUpsert:
			body = little.AppendSized(body, c.Src, sourceBytes)
		}
	}
	part, _ := frame.Seal(api.Frame{Kind: kindPart, Gen: number, Body: body}, api.FrameHead+len(body)+api.FrameTail)
	return part
}

// callOf: the number and the changes that some bytes tell, if they are a part for the schema.
func callOf(part []byte, s api.Schema) (number uint64, cs []api.Change, ok bool) {
	f, e := frame.Open(part)
	if e != api.OK || f.Kind != kindPart || len(f.Body) != frame.Room(len(part)) || len(f.Body) == 0 {
		return 0, nil, false
	}
	count, rest := int(f.Body[0]), f.Body[1:]
	if count < 1 || count > api.MaxBatch {
		return 0, nil, false
	}
	for range count {
		var c api.Change
		if c, rest, ok = changeOf(rest, s); !ok {
			return 0, nil, false
		}
		cs = append(cs, c)
	}
	return f.Gen, cs, len(rest) == 0
}

// changeOf: the change at the head of some bytes, and what stands behind it.
func changeOf(b []byte, s api.Schema) (c api.Change, behind []byte, ok bool) {
	if len(b) == 0 {
		return api.Change{}, nil, false
	}
	key, rest, ok := little.Short(b[1:])
	if !ok {
		return api.Change{}, nil, false
	}
	c = api.Change{Kind: int(b[0]), Key: string(key)}
	switch c.Kind {
	case api.MPut:
		record, behind, ok := little.Short(rest)
		vals, e := value.Decode(s, record)
		c.Vals = vals
		return c, behind, ok && e == api.OK
	case api.MDelete:
		return c, rest, true
	case api.MUpsert:
		source, behind, ok := little.Sized(rest, sourceBytes)
		c.Src = string(source)
		return c, behind, ok
	}
	return api.Change{}, nil, false
}
