package wire_test

import (
	"math"
	"slices"
	"strings"
	"testing"

	"arbor/api"
	"arbor/drill"
	"arbor/wire"
)

// wholeValues: of each kind.
func wholeValues() []api.Value {
	return slices.Concat([]api.Value{{}}, drill.Values(api.Int), drill.Values(api.Bool), drill.Values(api.Bytes))
}

// notWhole: of no kind, or with what their kind does not use.
func notWhole() []api.Value {
	return []api.Value{
		{N: 1}, {N: -1}, {S: "x"}, {Kind: api.Int, S: "x"}, {Kind: api.Int, N: 5, S: "\x00"}, {Kind: api.Bool, N: 2}, {Kind: api.Bool, N: -1}, {Kind: api.Bool, N: 256}, {Kind: api.Bool, N: 1, S: "x"},
		{Kind: api.Bytes, N: 1}, {Kind: api.Bytes, N: 1, S: "x"}, {Kind: api.Bytes, S: strings.Repeat("x", 21)}, {Kind: api.Bytes, S: strings.Repeat("x", 256)}, {Kind: api.Bytes, S: strings.Repeat("x", 1<<20)},
		{Kind: 4}, {Kind: -1}, {Kind: 256}, {Kind: 257}, {Kind: 1 << 32}, {Kind: math.MaxInt}, {Kind: math.MinInt},
	}
}

func errnos() []api.Errno {
	return []api.Errno{0, 1, 140, 255, 256, 270, 65535, -1, 65536, 65536 + 140, 1 << 32, math.MaxInt, math.MinInt}
}

// someRows: lists of entries that may be, and such as may not.
func someRows(s api.Schema) [][]api.Entry {
	record := drill.Records(s)[0]
	of := func(keys ...string) []api.Entry {
		var list []api.Entry
		for _, key := range keys {
			list = append(list, api.Entry{Key: key, Vals: record})
		}
		return list
	}
	lists := [][]api.Entry{
		nil, {}, of("a"), of("b", "a"), of("a", "a", "a"), of("0123456789abcdef", "\x00"), of(slices.Repeat([]string{"k"}, 100)...),
		of(""), of("a", ""), of("0123456789abcdefg"), of("a", strings.Repeat("k", 256), "b"), of(slices.Repeat([]string{"k"}, 101)...), of(slices.Repeat([]string{""}, 101)...), make([]api.Entry, 1<<17),
	}
	for _, vals := range drill.WrongRecords(s) {
		lists = append(lists, []api.Entry{{Key: "a", Vals: record}, {Key: "b", Vals: vals}})
	}
	return lists
}

// P24.3, P24.4: each part of a reply, right and wrong, with each of all others.
func TestRepliesOfAllParts(t *testing.T) {
	for _, s := range []api.Schema{drill.SchemaOf("n:int"), drill.Schemas()[0]} {
		records, wrong := drill.Records(s), drill.WrongRows(s)
		rows := []api.Row{{}, {Vals: []api.Value{}}, {Here: true, Vals: records[0]}, {Here: true, Vals: records[len(records)-1]}, wrong[0], wrong[len(wrong)-1]}
		values := append(wholeValues()[:4], notWhole()[0], notWhole()[5])
		lists := someRows(s)
		met := map[api.Errno]int{}
		for _, errno := range errnos() {
			for _, row := range rows {
				for _, v := range values {
					for _, list := range slices.Concat(lists[2:7], lists[7:9], lists[11:13]) {
						r := api.Reply{Id: 5, Err: errno, N: 1 << 63, Row: row, Value: v, Rows: list}
						b, e := writesReply(t, s, r)
						if met[e]++; e == api.OK && !readsReply(t, s, b) {
							t.Fatalf("%s: %x is not read", shownReply(r), b)
						}
					}
				}
			}
		}
		if met[api.OK] != 7*4*4*5 || met[api.ErrWire] != (13*6-7*4)*6*9 || met[api.ErrHuge] != 7*4*6*2 || met[api.ErrValue] != 7*4*(6*7-4*5) {
			t.Errorf("the answers are %v", met)
		}
	}
}

// P24.3, P24.4: each part of a reply alone.
func TestRepliesOfEachPart(t *testing.T) {
	numbers := drill.Numbers(681)
	for _, s := range schemas() {
		var list []api.Reply
		for _, errno := range errnos() {
			list = append(list, api.Reply{Err: errno})
		}
		for _, n := range []uint64{0, 1, 255, 256, 1 << 32, 1<<63 - 1, 1 << 63, math.MaxUint64} {
			list = append(list, api.Reply{N: n, Id: uint32(n >> 3)})
		}
		for _, row := range slices.Concat(drill.Rows(s), drill.WrongRows(s), drill.Fitting{Schema: s, Numbers: &numbers}.Rows(200)) {
			list = append(list, api.Reply{Row: row})
		}
		for _, v := range slices.Concat(wholeValues(), notWhole()) {
			list = append(list, api.Reply{Value: v})
		}
		for _, rows := range someRows(s) {
			list = append(list, api.Reply{Rows: rows})
		}
		for _, r := range list {
			if b, e := writesReply(t, s, r); e == api.OK && !readsReply(t, s, b) {
				t.Fatalf("%s: %x is not read", shownReply(r), b)
			}
		}
	}
}

// P24.3: of several faults the first one is told.
func TestOrderOfErrorsOfReplies(t *testing.T) {
	s := drill.SchemaOf("n:int")
	many := make([]api.Entry, 101)
	for _, c := range []struct {
		r    api.Reply
		want api.Errno
	}{
		{api.Reply{Err: -1, Rows: many, Row: api.Row{Here: true}}, api.ErrWire},
		{api.Reply{Value: api.Value{N: 1}, Rows: many}, api.ErrWire},
		{api.Reply{Value: api.Value{Kind: api.Bytes, S: strings.Repeat("x", 1<<20)}, Row: api.Row{Vals: five}}, api.ErrWire},
		{api.Reply{Rows: many, Row: api.Row{Here: true}}, api.ErrHuge},
		{api.Reply{Rows: make([]api.Entry, 1<<20)}, api.ErrHuge},
		{api.Reply{Rows: many[:100]}, api.ErrValue},
		{api.Reply{Row: api.Row{Here: true, Vals: make([]api.Value, 1<<20)}}, api.ErrValue},
	} {
		for _, wrong := range drill.WrongSchemas() {
			if _, e := writesReply(t, wrong, c.r); e != api.ErrSchema {
				t.Errorf("EncodeReply(%s) without a schema = %d", shownReply(c.r), e)
			}
		}
		if _, e := writesReply(t, s, c.r); e != c.want {
			t.Errorf("EncodeReply(%s) = %d, want %d", shownReply(c.r), e, c.want)
		}
	}
}

// greatest: a reply of the longest parts that may be, of a schema with the widest records.
func greatest() (api.Schema, api.Reply) {
	s := drill.SchemaOf("a:bytes?,b:bytes?,c:bytes?")
	text := api.Value{Kind: api.Bytes, S: strings.Repeat("x", 20)}
	vals := []api.Value{text, text, text}
	r := api.Reply{Id: math.MaxUint32, Err: 65535, N: math.MaxUint64, Row: api.Row{Here: true, Vals: vals}, Value: text}
	for range api.MaxRows {
		r.Rows = append(r.Rows, api.Entry{Key: "0123456789abcdef", Vals: vals})
	}
	return s, r
}

// P24.3: no reply has more than MaxWire bytes.
func TestTheGreatestReply(t *testing.T) {
	s, r := greatest()
	b, e := writesReply(t, s, r)
	if e != api.OK || len(b) != 9+2+8+(1+1+64)+(1+1+20)+2+100*(1+16+1+64)+4 || len(b) > api.MaxWire || !readsReply(t, s, b) {
		t.Errorf("%d bytes, %d", len(b), e)
	}
}

// P24.4: every short body behind an error and a number, of a part whose length and sum are right.
func TestRepliesOfShortBodies(t *testing.T) {
	s := drill.SchemaOf("n:int")
	head := "\x01\x00" + strings.Repeat("\x07", 8)
	right := 0
	for length := range 8 {
		drill.Scripts([]byte{0, 1, 2, 3, 4, 138}, length, func(rest []byte) {
			if readsBoth(t, s, part('R', 9, head+string(rest))) {
				right++
			}
		})
	}
	// Without a record, with one of a byte (5), with one of two (4): with as many values as have room there, and no rows.
	if right != (1+2+1+6+36)+5*(1+2+1)+4 {
		t.Errorf("%d short bodies are replies", right)
	}
	for length := range head {
		if readsBoth(t, s, part('R', 9, head[:length])) {
			t.Errorf("%d bytes are a body", length)
		}
	}
}

// P24.4: as many rows as their number says, of any number.
func TestRepliesOfSomeRows(t *testing.T) {
	s := drill.SchemaOf("n:int")
	ahead := strings.Repeat("\x00", 2+8+1+1)
	row := "\x01a\x01\x0a"
	for rows := range 103 {
		for _, number := range []int{rows, rows - 1, rows + 1, 0, 100, 101, 255, 256 + rows, 65535} {
			if is := readsReply(t, s, part('R', 1, ahead+u16(number)+strings.Repeat(row, rows))); is != (number == rows && rows <= 100) {
				t.Errorf("%d rows with the number %d: a reply: %v", rows, number, is)
			}
		}
	}
	for _, number := range []int{0, 100, 101, 65535} {
		readsReply(t, s, part('R', 1, ahead+u16(number)+strings.Repeat(row, 8000)))
		readsReply(t, s, part('R', 1, ahead+u16(number)+strings.Repeat("\x00", 32700)))
	}
}

// someReplies: with each part alone, and with all of them.
func someReplies(s api.Schema, numbers *drill.Numbers) []api.Reply {
	f := drill.Fitting{Schema: s, Numbers: numbers}
	row := api.Row{Here: true, Vals: f.Record()}
	rows := []api.Entry{{Key: "b", Vals: f.Record()}, {Key: "0123456789abcdef", Vals: f.Record()}}
	return []api.Reply{
		{}, {Id: math.MaxUint32, Err: api.ErrWire}, {Id: 1, N: 1 << 40}, {Row: row}, {Rows: rows}, {Value: api.Value{Kind: api.Int, N: -5}}, {Value: api.Value{Kind: api.Bool, N: 1}}, {Value: api.Value{Kind: api.Bytes, S: "xyz"}},
		{Id: 258, Err: 65535, N: 7, Row: row, Value: api.Value{Kind: api.Bytes}, Rows: rows},
	}
}

// P24.4: bytes one step away from a reply, as they are and with a length and a sum that are right.
func TestRepliesOneStepAway(t *testing.T) {
	numbers := drill.Numbers(682)
	right := 0
	for _, s := range schemas() {
		for _, r := range someReplies(s, &numbers) {
			b, _ := writesReply(t, s, r)
			right += oneStepAway(t, s, b, &numbers)
		}
	}
	if right < 1000 {
		t.Errorf("%d of them are replies with another sum", right)
	}
}

// P24.4: a schema that may not be is told ahead of all else; and bytes of a record of one schema are none of another one.
func TestDecodeReplyOfSchemas(t *testing.T) {
	s := drill.SchemaOf("n:int")
	b, _ := writesReply(t, s, api.Reply{Row: api.Row{Here: true, Vals: five}})
	for _, wrong := range drill.WrongSchemas() {
		for _, c := range [][]byte{b, nil, b[1:]} {
			if r, e := wire.DecodeReply(wrong, c); e != api.ErrSchema || !sameReply(r, api.Reply{}) {
				t.Errorf("DecodeReply of a wrong schema = %s, %d", shownReply(r), e)
			}
		}
	}
	for text, want := range map[string]bool{"m:int": true, "n:bool": false, "n:int?": false, "n:bytes": false, "n:int,m:int": false} {
		if is := readsReply(t, drill.SchemaOf(text), b); is != want {
			t.Errorf("as one of %s: a reply: %v", text, is)
		}
	}
}
