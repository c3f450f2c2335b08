package wire_test

import (
	"math"
	"slices"
	"strings"
	"testing"

	"arbor/api"
	"arbor/drill"
	"arbor/wire"
)

func schemas() []api.Schema {
	return append(drill.Schemas(), drill.SchemaOf("n:int"), drill.SchemaOf("a:bytes,b:bytes,c:bytes"), drill.SchemaOf("on:bool?"))
}

func ops() []int {
	return []int{0, 1, 2, 3, 4, 5, 6, 7, 8, 9, 10, 11, 12, 13, -1, -4, 81, 255, 256 + 4, 256 + 6, 1 << 32, 1<<32 + 5, math.MaxInt, math.MinInt}
}

// someVals: none, records, and lists that are none.
func someVals(s api.Schema) [][]api.Value {
	records := drill.Records(s)
	lists := [][]api.Value{nil, {}, records[0], records[len(records)-1], records[len(records)/2]}
	return append(lists, drill.WrongRecords(s)...)
}

// P24.1, P24.2: every operation with each choice out of parts that are empty, short, at their bounds and beyond.
func TestRequestsOfAllParts(t *testing.T) {
	s := drill.SchemaOf("n:int")
	lists := [][]api.Value{nil, {}, five, {{Kind: api.Bool}}, append(slices.Clone(five), five...)}
	texts := []string{"", "a", "\x00\xff", strings.Repeat("k", 255), strings.Repeat("k", 256), strings.Repeat("s", 1024), strings.Repeat("s", 1025)}
	met := map[api.Errno]int{}
	for _, op := range ops() {
		for _, key := range texts {
			for _, hi := range texts {
				for _, src := range texts {
					for _, vals := range lists {
						for _, n := range []int64{0, 1, -2, math.MinInt64} {
							r := api.Request{Id: 7, Op: op, Key: key, Hi: hi, Src: src, Vals: vals, N: n}
							b, e := writesRequest(t, s, r)
							if met[e]++; e == api.OK && (!readsRequest(t, s, b) || len(b) > api.MaxWire) {
								t.Fatalf("%s: %d bytes are not read", shownRequest(r), len(b))
							}
						}
					}
				}
			}
		}
	}
	// Four of the texts may be a key, six a source, two of the lists are empty: by operation, RPut alone takes one list.
	if met[api.OK] != 5*2+2*4*2+4*4*4*2+4+4*6*2+4*4*6*2 || met[api.ErrValue] != 4*4 || met[api.ErrHuge] == 0 {
		t.Errorf("the answers are %v", met)
	}
}

// P24.1, P24.2: records of all kinds of fields, and lists that are none.
func TestRequestsOfRecords(t *testing.T) {
	numbers := drill.Numbers(671)
	for _, s := range schemas() {
		lists := append(someVals(s), drill.Records(s)...)
		for range 300 {
			lists = append(lists, drill.Fitting{Schema: s, Numbers: &numbers}.Record())
		}
		for _, vals := range lists {
			for _, op := range []int{api.RPut, api.RGet, api.RUpsert, api.RSeq, 0} {
				r := api.Request{Id: uint32(numbers.Below(1 << 20)), Op: op, Vals: vals}
				if b, e := writesRequest(t, s, r); e == api.OK && !readsRequest(t, s, b) {
					t.Fatalf("%s: %x is not read", shownRequest(r), b)
				}
			}
		}
	}
}

// P24.1, P24.2: the number and the ints at their edges, texts of any bytes and of every length.
func TestRequestsOfEveryLength(t *testing.T) {
	s := drill.SchemaOf("n:int")
	all := make([]byte, 1300)
	for i := range all {
		all[i] = byte(i)
	}
	for length := range all {
		text := string(all[len(all)-length:])
		for _, r := range []api.Request{
			{Op: api.RGet, Key: text}, {Op: api.RScan, Key: text}, {Op: api.RScan, Hi: text, N: int64(length)}, {Op: api.RPut, Key: text, Vals: five},
			{Op: api.RUpsert, Src: text}, {Op: api.RQuery, Src: text, Key: "k"}, {Op: api.RQuery, Hi: text, Src: text},
		} {
			b, e := writesRequest(t, s, r)
			if e == api.OK && !readsRequest(t, s, b) || (e == api.OK) != (max(len(r.Key), len(r.Hi)) < 256 && len(r.Src) < 1025) {
				t.Fatalf("%s: %d", shownRequest(r), e)
			}
		}
	}
	for _, id := range []uint32{0, 1, 255, 256, 1 << 16, 1 << 24, 1 << 31, math.MaxUint32} {
		for _, n := range []int64{0, 1, -1, 255, 256, 1 << 31, 1 << 32, 1 << 56, math.MaxInt64, math.MinInt64} {
			if b, _ := writesRequest(t, s, api.Request{Id: id, Op: api.RScan, N: n}); !readsRequest(t, s, b) {
				t.Fatalf("%d, %d is not read", id, n)
			}
		}
	}
}

// P24.1: of several faults the first one is told.
func TestOrderOfErrorsOfRequests(t *testing.T) {
	huge := strings.Repeat("k", 256)
	good := drill.SchemaOf("n:int")
	for _, c := range []struct {
		r    api.Request
		want api.Errno
	}{
		{api.Request{Op: 12, Key: huge}, api.ErrWire},
		{api.Request{Op: api.RSeq, Key: huge}, api.ErrWire},
		{api.Request{Op: api.RGet, Hi: huge}, api.ErrWire},
		{api.Request{Op: api.RPut, Key: huge, Src: "x"}, api.ErrWire},
		{api.Request{Op: api.RPut, Key: huge}, api.ErrHuge},
		{api.Request{Op: api.RPut, Key: huge, Vals: make([]api.Value, 1<<20)}, api.ErrHuge},
		{api.Request{Op: api.RPut, Key: huge[1:], Vals: make([]api.Value, 1<<20)}, api.ErrValue},
		{api.Request{Op: api.RUpsert, Key: huge, Src: huge + huge + huge + huge + "s", Vals: five}, api.ErrWire},
		{api.Request{Op: api.RDelete, Vals: make([]api.Value, 1<<20)}, api.ErrWire},
	} {
		for _, s := range drill.WrongSchemas() {
			if _, e := writesRequest(t, s, c.r); e != api.ErrSchema {
				t.Errorf("EncodeRequest(%s) without a schema = %d", shownRequest(c.r), e)
			}
		}
		if _, e := writesRequest(t, good, c.r); e != c.want {
			t.Errorf("EncodeRequest(%s) = %d, want %d", shownRequest(c.r), e, c.want)
		}
	}
}

// P24.1: what a text means is not asked.
func TestRequestsTravelWhateverTheyAsk(t *testing.T) {
	s := drill.SchemaOf("n:int")
	for _, r := range []api.Request{
		{Op: api.RGet, Key: "a key of seventeen"}, {Op: api.RPut, Vals: five}, {Op: api.RUpsert, Key: "a", Src: "no such thing ("}, {Op: api.RUpsert, Src: "\xff"},
		{Op: api.RQuery, Src: "sum"}, {Op: api.RQuery, Key: "b", Hi: "a"}, {Op: api.RScan, N: -5}, {Op: api.RDelete},
	} {
		if b, e := writesRequest(t, s, r); e != api.OK || !readsRequest(t, s, b) {
			t.Errorf("EncodeRequest(%s) = %d", shownRequest(r), e)
		}
	}
}

// P24.2: every short body out of some bytes, of a part whose length and sum are right.
func TestRequestsOfShortBodies(t *testing.T) {
	s := drill.SchemaOf("n:int")
	right := 0
	for op := range 256 {
		for length := range 5 {
			drill.Scripts([]byte{0, 1, 2, 10, 128}, length, func(rest []byte) {
				if readsBoth(t, s, part('Q', 9, u8(op)+string(rest))) {
					right++
				}
			})
		}
	}
	// Five without arguments; RGet and RDelete of keys up to two bytes; RPut of an int in one byte or two, or in one behind a key; RUpsert of a source of a byte or of none, or of none behind a key; RQuery.
	if right != 5+2*(1+5+25)+(4+3+5*4)+(5+1+5)+1 {
		t.Errorf("%d short bodies are requests", right)
	}
	for _, b := range [][]byte{part('Q', 9, ""), nil, {}, {14}, {14, 0, 0, 0}, make([]byte, 13), make([]byte, 14), make([]byte, 1<<20)} {
		if readsBoth(t, s, b) {
			t.Errorf("%x is a part", b)
		}
	}
}

// someRequests: of each operation.
func someRequests(s api.Schema, numbers *drill.Numbers) []api.Request {
	vals := drill.Fitting{Schema: s, Numbers: numbers}.Record()
	return []api.Request{
		{Id: 1, Op: api.ROpen}, {Id: 2, Op: api.RCommit}, {Op: api.RAbort}, {Id: math.MaxUint32, Op: api.RGet, Key: "ab"}, {Op: api.RGet},
		{Op: api.RScan, Key: "a", Hi: "\xff", N: -2}, {Op: api.RScan, N: 1 << 40}, {Id: 258, Op: api.RPut, Key: "kk", Vals: vals}, {Op: api.RPut, Vals: vals},
		{Op: api.RDelete, Key: "0123456789abcdef"}, {Op: api.RUpsert, Key: "k", Src: "n += 1"}, {Op: api.RUpsert}, {Op: api.RQuery, Key: "a", Hi: "b", Src: "sum n"},
		{Op: api.RSync}, {Id: 7, Op: api.RSeq},
	}
}

// P24.2: bytes one step away from a request, as they are and with a length and a sum that are right.
func TestRequestsOneStepAway(t *testing.T) {
	numbers := drill.Numbers(672)
	right := 0
	for _, s := range schemas() {
		for _, r := range someRequests(s, &numbers) {
			b, _ := writesRequest(t, s, r)
			right += oneStepAway(t, s, b, &numbers)
		}
	}
	if right < 1000 {
		t.Errorf("%d of them are requests with another sum", right)
	}
}

// P24.2: a schema that may not be is told ahead of all else; and bytes of a record of one schema are none of another one.
func TestDecodeRequestOfSchemas(t *testing.T) {
	s := drill.SchemaOf("n:int")
	b, _ := writesRequest(t, s, api.Request{Op: api.RPut, Key: "a", Vals: five})
	for _, wrong := range drill.WrongSchemas() {
		for _, c := range [][]byte{b, nil, b[1:]} {
			if r, e := wire.DecodeRequest(wrong, c); e != api.ErrSchema || !sameRequest(r, api.Request{}) {
				t.Errorf("DecodeRequest of a wrong schema = %s, %d", shownRequest(r), e)
			}
		}
	}
	for text, want := range map[string]bool{"m:int": true, "n:bool": false, "n:int?": false, "n:bytes": false, "n:int,m:int": false} {
		if is := readsRequest(t, drill.SchemaOf(text), b); is != want {
			t.Errorf("as one of %s: a request: %v", text, is)
		}
	}
}
