package message

import (
	"arbor/api"
	"arbor/little"
	"arbor/value"
)

// Size: how many bytes Encode gives.
func Size(s api.Schema, m api.Message) int {
	b, _ := Encode(s, m)
	return len(b)
}

// Encode: a message as bytes.
func Encode(s api.Schema, m api.Message) ([]byte, api.Errno) {
	if e := Check(s, m); e != api.OK {
		return nil, e
	}
	b := []byte{byte(m.Kind)}
	b = little.AppendShort(b, m.Key)
	return little.AppendShort(b, bodyOf(s, m)), api.OK
}

// Decode: the message at the head of some bytes, and how many of them it takes.
func Decode(s api.Schema, b []byte) (api.Message, int, api.Errno) {
	if e := value.CheckSchema(s); e != api.OK {
		return api.Message{}, 0, e
	}
	m, rest, ok := take(s, b)
	if !ok || Check(s, m) != api.OK {
		return api.Message{}, 0, api.ErrMessage
	}
	return m, len(b) - len(rest), api.OK
}

// bodyOf: of a message that may be. A delete has no code, and so no body.
func bodyOf(s api.Schema, m api.Message) []byte {
	if m.Kind == api.MPut {
		body, _ := value.Encode(s, m.Vals)
		return body
	}
	return m.Code
}

// take: the parts of a message at the head of some bytes, whether they may stand together or not, and what stands behind them.
func take(s api.Schema, b []byte) (m api.Message, rest []byte, ok bool) {
	if len(b) < 1 {
		return api.Message{}, nil, false
	}
	key, rest, ok := little.Short(b[1:])
	if !ok {
		return api.Message{}, nil, false
	}
	body, rest, ok := little.Short(rest)
	if !ok {
		return api.Message{}, nil, false
	}
	return withBody(s, api.Message{Kind: int(b[0]), Key: string(key)}, body), rest, true
}

// withBody: the message with what its body says. A body that its kind may not have stands there as a code, and one that is no record gives no values: both Check refuses.
func withBody(s api.Schema, m api.Message, body []byte) api.Message {
	if m.Kind == api.MPut {
		m.Vals, _ = value.Decode(s, body)
		return m
	}
	m.Code = append([]byte{}, body...)
	return m
}
