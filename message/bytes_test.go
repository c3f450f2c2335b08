package message_test

import (
	"bytes"
	"slices"
	"strings"
	"testing"

	"arbor/api"
	"arbor/drill"
	"arbor/message"
)

// P14.3, P14.4: messages of all kinds, keys, records and codes.
func TestBytesOfMessages(t *testing.T) {
	sizes := map[int]int{}
	messagesOf(151, 4000, func(fitting drill.Fitting, m api.Message) {
		wantMessage(t, fitting.Schema, m)
		sizes[message.Size(fitting.Schema, m)]++
	})
	if len(sizes) < 60 {
		t.Errorf("only %d sizes came", len(sizes))
	}
	for _, s := range drill.Schemas() {
		for _, record := range drill.Records(s) {
			for _, key := range drill.Keys() {
				wantMessage(t, s, api.Message{Kind: api.MPut, Key: key, Vals: record})
			}
		}
	}
}

// P14.3, P14.4: every length of a key, with every length of a code: from the shortest message to the one of MaxMessage bytes.
func TestEveryLength(t *testing.T) {
	s := drill.SchemaOf(exampleSchema)
	for key := range 18 {
		for length := range 98 {
			m := api.Message{Kind: api.MUpsert, Key: strings.Repeat("k", key), Code: bytes.Repeat([]byte{api.INew}, length)}
			if wantMessage(t, s, m) == api.OK && message.Size(s, m) != 3+key+length {
				t.Errorf("a key of %d bytes, a code of %d: Size %d", key, length, message.Size(s, m))
			}
			raw := slices.Concat([]byte{api.MUpsert, byte(key)}, []byte(m.Key), []byte{byte(length)}, m.Code)
			if e := wantDecode(t, s, raw); (e == api.OK) != (1 <= key && key <= 16 && length <= 96) {
				t.Errorf("a key of %d bytes, a code of %d: Decode %d", key, length, e)
			}
		}
	}
	long := api.Message{Kind: api.MUpsert, Key: strings.Repeat("k", 16), Code: bytes.Repeat([]byte{api.INew}, 96)}
	if n := message.Size(s, long); n != api.MaxMessage {
		t.Errorf("the longest message has %d bytes", n)
	}
}

// P14.3, P14.4: the longest and the shortest records, of schemas of all widths.
func TestLongestPuts(t *testing.T) {
	for _, x := range []struct {
		schema, record string
		size           int
	}{
		{"a:bool", "{}", 1},
		{"a:bool?", "{}", 1},
		{"a:int", "{a=-9223372036854775808}", 10},
		{"a:bytes,b:bytes,c:bytes", "{}", 3},
		{"a:bytes?,b:bytes?,c:bytes?", `{a="01234567890123456789",b="01234567890123456789",c="01234567890123456789"}`, 64},
		{"a:int,b:int,c:int,d:int,e:int,f:int?,g:bool,h:bool", "{a=-9223372036854775808,b=9223372036854775807,c=-9223372036854775808,d=9223372036854775807,e=-9223372036854775808,f=9223372036854775807}", 63},
	} {
		s := drill.SchemaOf(x.schema)
		for _, key := range drill.Keys() {
			m := api.Message{Kind: api.MPut, Key: key, Vals: drill.RowOf(s, x.record).Vals}
			if wantMessage(t, s, m) != api.OK || message.Size(s, m) != 3+len(key)+x.size {
				t.Errorf("%s: Size %d", drill.ShownMessage(s, m), message.Size(s, m))
			}
		}
	}
}

// P14.4: every list of bytes of some at the edges.
func TestDecodeOfEveryShortBytes(t *testing.T) {
	all := make([]byte, 256)
	for c := range all {
		all[c] = byte(c)
	}
	edges := []byte{0, 1, 2, 3, 4, 0x15, 0x17, 'k'}
	for _, s := range []api.Schema{drill.SchemaOf("n:int"), drill.SchemaOf("a:bool?")} {
		right := 0
		look := func(b []byte) {
			if wantDecode(t, s, b) == api.OK {
				right++
			}
		}
		for length := range 3 {
			drill.Scripts(all, length, look)
		}
		for length := 3; length <= 6; length++ {
			drill.Scripts(edges, length, look)
		}
		for _, kind := range all {
			for _, length := range all {
				look([]byte{kind, 1, 'k', length, 0, 0, 0})
				look([]byte{kind, length, 'k', 0, 0, 0, 0})
				look([]byte{kind, 1, 'k', 1, length})
			}
		}
		if right < 1000 {
			t.Errorf("only %d of them are messages", right)
		}
	}
}

// P14.4: bytes of messages that are cut short, at every place: ErrMessage.
func TestCutMessages(t *testing.T) {
	messagesOf(152, 300, func(fitting drill.Fitting, m api.Message) {
		s := fitting.Schema
		b, _ := message.Encode(s, m)
		for n := range b {
			got, taken, e := message.Decode(s, b[:n])
			if e != api.ErrMessage || taken != 0 || !drill.SameMessage(got, api.Message{}) {
				t.Fatalf("Decode of the first %d bytes of % x = %s, %d, %d", n, b, drill.ShownMessage(s, got), taken, e)
			}
		}
	})
}

// P14.4: bytes one step away from a message's: changed, left out or put in at every place.
func TestSpoiledMessages(t *testing.T) {
	right, wrong := 0, 0
	messagesOf(153, 80, func(fitting drill.Fitting, m api.Message) {
		s, numbers := fitting.Schema, fitting.Numbers
		b, _ := message.Encode(s, m)
		b = append(b, "\x02\x01k\x00"[:numbers.Below(5)]...)
		for at := range b {
			for _, raw := range numbers.Spoiled(b, at) {
				if wantDecode(t, s, raw) == api.OK {
					right++
				} else {
					wrong++
				}
			}
		}
	})
	if right < 500 || wrong < 500 {
		t.Errorf("%d of them are messages, %d are none", right, wrong)
	}
}

// P14.4: every kind, key and body by itself right or wrong, with the length told rightly or one off.
func TestDecodeOfParts(t *testing.T) {
	s := drill.SchemaOf(exampleSchema)
	keys := []string{"", "k", "\x00\xff", strings.Repeat("k", 16), strings.Repeat("k", 17)}
	bodies := []string{
		"", "\x00", "\x00\x0a\x01", "\x01\x0a\x01\x02ab", "\x02\x0a\x01", "\x00\x0a\x02", "\x00\x0a", "\x00\x0a\x01\x00", "\x00\x8a\x00\x01", "\x01\x0a\x01\x15" + strings.Repeat("a", 21),
		"\x17", "\x01\x02\x15\x00", "\x15\x00", "\x15\x01", "\x19\x01", "\x01", "\x01\x02", "\x1b", "\x04\x02a", "\x05\x08", "\x07\x1a\x01\x18",
		strings.Repeat("\x17", 96), strings.Repeat("\x17", 97), strings.Repeat("\x17", 255),
	}
	right := 0
	for kind := range 6 {
		for _, key := range keys {
			for _, body := range bodies {
				for _, off := range []int{0, 0, 1, -1} {
					for _, tail := range []string{"", "\x17"} {
						b := []byte{byte(kind), byte(len(key))}
						b = append(append(append(b, key...), byte(len(body)+off)), body...)
						if wantDecode(t, s, append(b, tail...)) == api.OK {
							right++
						}
					}
				}
			}
		}
	}
	if right < 100 {
		t.Errorf("only %d of them are messages", right)
	}
}

// P14.4: what stands behind a message does not matter, however much it is; nor is more looked at than a message can have.
func TestDecodeOfManyBytes(t *testing.T) {
	s := drill.SchemaOf(exampleSchema)
	for _, c := range []byte{0, 1, 2, 3, 255} {
		rest := bytes.Repeat([]byte{c}, 1<<24)
		for _, text := range []string{"put k {n=5,on=true}", "delete k", "upsert k push 1; addto 0", "upsert k"} {
			m := drill.MessageOf(s, text)
			b, _ := message.Encode(s, m)
			copy(rest, b)
			got, n, e := message.Decode(s, rest)
			if e != api.OK || n != len(b) || !drill.SameMessage(got, m) {
				t.Errorf("Decode(% x and many more) = %s, %d, %d", b, drill.ShownMessage(s, got), n, e)
			}
		}
		if m, n, e := message.Decode(s, rest[100:]); e != api.ErrMessage || n != 0 || !drill.SameMessage(m, api.Message{}) {
			t.Errorf("Decode(many times %d) = %+v, %d, %d", c, m, n, e)
		}
	}
}
