package drill

import (
	"bytes"
	"math"
	"slices"
	"strconv"
	"strings"

	"arbor/api"
	"arbor/code"
	"arbor/value"
)

// MessageOf: the message of a text: put, delete or upsert, a key without a blank, and then the record of a put or the code of an upsert.
func MessageOf(s api.Schema, text string) api.Message {
	word, rest, _ := strings.Cut(text, " ")
	key, body, _ := strings.Cut(rest, " ")
	switch word {
	case "put":
		return api.Message{Kind: api.MPut, Key: key, Vals: RowOf(s, body).Vals}
	case "upsert":
		return api.Message{Kind: api.MUpsert, Key: key, Code: CodeBytes(CodeOf(body))}
	case "delete":
		return api.Message{Kind: api.MDelete, Key: key}
	}
	panic("drill: no message: " + text)
}

// ShownMessage: what MessageOf is given, with the key as a literal.
func ShownMessage(s api.Schema, m api.Message) string {
	key := value.Quote(m.Key)
	is, e := code.Decode(m.Code)
	switch {
	case m.Kind == api.MPut && len(m.Code) == 0:
		return "put " + key + " " + ShownRow(s, api.Row{Here: true, Vals: m.Vals})
	case m.Kind == api.MDelete && len(m.Vals) == 0 && len(m.Code) == 0:
		return "delete " + key
	case m.Kind == api.MUpsert && len(m.Vals) == 0 && e == api.OK:
		return "upsert " + key + " " + ShownCode(is)
	}
	return "no message of " + key
}

// ShownMessages: the first eight of a list.
func ShownMessages(s api.Schema, ms []api.Message) string {
	text := ""
	for _, m := range ms[:min(len(ms), 8)] {
		text += ShownMessage(s, m) + " | "
	}
	return text
}

// CodeBytes: of instructions whose forms are right.
func CodeBytes(is []api.Ins) []byte {
	b, e := code.Encode(is...)
	must(e, "code", ShownCode(is))
	return b
}

// SameMessage: are two messages alike, part by part?
func SameMessage(a, b api.Message) bool {
	return a.Kind == b.Kind && a.Key == b.Key && slices.Equal(a.Vals, b.Vals) && bytes.Equal(a.Code, b.Code)
}

// A spare byte and a spare value stand in no message.

const spareByte = 0x77

func spareValue() api.Value {
	return api.Value{Kind: 77, N: 77, S: "spare"}
}

// RoomyMessage: the same message in other memory, with marked room behind its lists.
func RoomyMessage(m api.Message) api.Message {
	m.Vals, m.Code = Roomy(m.Vals, spareValue()), Roomy(m.Code, spareByte)
	return m
}

// MessageAsItWas: is what RoomyMessage gave still the same as the message that it was given?
func MessageAsItWas(given, m api.Message) bool {
	return given.Kind == m.Kind && given.Key == m.Key && AsItWas(given.Vals, m.Vals, spareValue()) && AsItWas(given.Code, m.Code, spareByte)
}

// OverwriteMessage: every place of its lists, the room behind them too.
func OverwriteMessage(m api.Message) {
	Overwrite(m.Vals, spareValue())
	Overwrite(m.Code, spareByte)
}

// Keys: short and long ones, of bytes at the edges.
func Keys() []string {
	return []string{"k", "\x00", "\xff", "kk", "a b", "\x01\x02\x03", "\xc3\xa9", strings.Repeat("x", 15), strings.Repeat("y", 16), strings.Repeat("\x00", 16), strings.Repeat("\xff", 16)}
}

// Key: the one of a number below 10000: short and long ones, in no plain order.
func Key(number int) string {
	text := strconv.Itoa(number * 7919 % 10007)
	switch number % 5 {
	case 0:
		return "k" + text
	case 1:
		return strings.Repeat("k", 12-len(text)%5) + text[:min(len(text), 3)] + string(rune('0'+number/1000))
	case 2:
		return string([]byte{byte(number), byte(number / 256)})
	}
	return text
}

// SomeKey: any of the first so many.
func SomeKey(numbers *Numbers, many int) string {
	return Key(numbers.Below(many))
}

// SomeKeys: up to so many of them, one at least, now and then one that was there before.
func SomeKeys(numbers *Numbers, many, most int) []string {
	var keys []string
	for range 1 + numbers.Below(most) {
		key := SomeKey(numbers, many)
		if len(keys) > 0 && numbers.Below(3) == 0 {
			key = Pick(numbers, keys)
		}
		keys = append(keys, key)
	}
	return keys
}

// Message: one of a key for rows of the schema.
func (f Fitting) Message(key string) api.Message {
	switch f.Numbers.Below(6) {
	case 0, 1:
		return api.Message{Kind: api.MPut, Key: key, Vals: f.Record()}
	case 2:
		return api.Message{Kind: api.MDelete, Key: key}
	}
	return api.Message{Kind: api.MUpsert, Key: key, Code: f.CodeBytes()}
}

// CodeBytes: of a code that may be run on the rows of the schema.
func (f Fitting) CodeBytes() []byte {
	for {
		is := f.Code(2 + f.Numbers.Below(4))
		if _, _, e := code.Verify(f.Schema, is...); e == api.OK {
			return CodeBytes(is)
		}
	}
}

// WrongMessages: what message.Check refuses, of a schema with fewer than eight fields. Some have further faults, behind the one that is to be told.
func WrongMessages(s api.Schema) []Wrong[api.Message] {
	record, long := Records(s)[0], strings.Repeat("k", 17)
	var list []Wrong[api.Message]
	add := func(e api.Errno, kind int, key string, vals []api.Value, b []byte) {
		list = append(list, Wrong[api.Message]{api.Message{Kind: kind, Key: key, Vals: vals, Code: b}, e})
	}
	for _, kind := range []int{0, 4, -1, 255, 257, 1 << 40, math.MinInt, math.MaxInt} {
		add(api.ErrMessage, kind, "k", nil, nil)
		add(api.ErrMessage, kind, "", record, []byte{api.INew})
	}
	for _, key := range []string{"k", "", long} {
		add(api.ErrMessage, api.MPut, key, record, []byte{api.INew})
		add(api.ErrMessage, api.MDelete, key, record, nil)
		add(api.ErrMessage, api.MDelete, key, nil, []byte{api.INew})
		add(api.ErrMessage, api.MUpsert, key, record, nil)
		add(api.ErrMessage, api.MUpsert, key, make([]api.Value, 1), []byte{api.INew})
	}
	for _, key := range []string{"", long, strings.Repeat("k", 256), strings.Repeat("k", 257), strings.Repeat("k", 1<<20)} {
		add(api.ErrKey, api.MPut, key, record, nil)
		add(api.ErrKey, api.MPut, key, nil, nil)
		add(api.ErrKey, api.MDelete, key, nil, nil)
		add(api.ErrKey, api.MUpsert, key, nil, []byte{api.INew})
		add(api.ErrKey, api.MUpsert, key, nil, []byte{0})
	}
	for _, vals := range WrongRecords(s) {
		add(api.ErrValue, api.MPut, "k", vals, nil)
	}
	for _, w := range wrongCodes() {
		add(w.Errno, api.MUpsert, "k", nil, w.Part)
	}
	return list
}

// wrongCodes: bytes of what may be run on the rows of no schema, unless it has eight fields.
func wrongCodes() []Wrong[[]byte] {
	var list []Wrong[[]byte]
	for _, b := range []string{"\x00", "\x1b", "\xff", "\x01", "\x01\x80\x00", "\x04\x02a", "\x05\x08", "\x17\x00", "\x19", strings.Repeat("\x17", 97), strings.Repeat("\x17", 1<<20)} {
		list = append(list, Wrong[[]byte]{[]byte(b), api.ErrCode})
	}
	for _, b := range []string{"\x0a", "\x01\x02", "\x02\x08", "\x07\x1a\x01\x01\x02\x18", strings.Repeat("\x02", 17)} {
		list = append(list, Wrong[[]byte]{[]byte(b), api.ErrStack})
	}
	list = append(list, Wrong[[]byte]{[]byte("\x19\x01"), api.ErrJump}, Wrong[[]byte]{[]byte("\x0a\x19\xff"), api.ErrJump})
	return append(list, Wrong[[]byte]{[]byte("\x05\x07\x14\x07"), api.ErrOperand}, Wrong[[]byte]{[]byte("\x19\x01\x16\x07"), api.ErrOperand})
}
