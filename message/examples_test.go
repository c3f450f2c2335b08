package message_test

import (
	"bytes"
	"encoding/hex"
	"strings"
	"testing"

	"arbor/api"
	"arbor/drill"
	"arbor/message"
)

const exampleSchema = "n:int,on:bool,tag:bytes?"

func unhex(t *testing.T, text string) []byte {
	t.Helper()
	b, err := hex.DecodeString(strings.ReplaceAll(text, " ", ""))
	if err != nil {
		t.Fatal(err)
	}
	return b
}

// The chapter's table of bytes.
func TestExamplesOfBytes(t *testing.T) {
	s := drill.SchemaOf(exampleSchema)
	for _, x := range [][2]string{
		{"put k {n=5,on=true}", "01 01 6b 03 00 0a 01"},
		{"delete k", "02 01 6b 00"},
		{"upsert k push 1; addto 0", "03 01 6b 04 01 02 15 00"},
		{"upsert k", "03 01 6b 00"},
	} {
		m, want := drill.MessageOf(s, x[0]), unhex(t, x[1])
		if b, e := message.Encode(s, m); e != api.OK || !bytes.Equal(b, want) || message.Size(s, m) != len(want) {
			t.Errorf("Encode(%s) = % x, %d, Size %d, want %s", x[0], b, e, message.Size(s, m), x[1])
		}
		if got, n, e := message.Decode(s, want); e != api.OK || n != len(want) || !drill.SameMessage(got, m) {
			t.Errorf("Decode(%s) = %s, %d, %d, want %s", x[1], drill.ShownMessage(s, got), n, e, x[0])
		}
		wantMessage(t, s, m)
	}
}

// The chapter's messages that are refused.
func TestExamplesOfErrors(t *testing.T) {
	s := drill.SchemaOf(exampleSchema)
	record, b := drill.RowOf(s, "{n=5,on=true}").Vals, []byte{0x17}
	for i, x := range []struct {
		m api.Message
		e api.Errno
	}{
		{api.Message{Kind: 0, Key: "k"}, api.ErrMessage},
		{api.Message{Kind: 4, Key: "k"}, api.ErrMessage},
		{api.Message{Kind: api.MDelete, Key: "k", Code: b}, api.ErrMessage},
		{api.Message{Kind: api.MDelete, Code: b}, api.ErrMessage},
		{api.Message{Kind: api.MPut, Key: "k", Vals: record, Code: b}, api.ErrMessage},
		{api.Message{Kind: api.MPut, Key: strings.Repeat("k", 17), Vals: record, Code: b}, api.ErrMessage},
		{api.Message{Kind: api.MUpsert, Key: "k", Vals: record}, api.ErrMessage},
		{api.Message{Kind: api.MUpsert, Vals: record, Code: b}, api.ErrMessage},
		{api.Message{Kind: api.MPut, Vals: record}, api.ErrKey},
		{api.Message{Kind: api.MPut, Key: strings.Repeat("k", 17), Vals: record[:1]}, api.ErrKey},
		{api.Message{Kind: api.MPut, Key: "k", Vals: record[:1]}, api.ErrValue},
		{api.Message{Kind: api.MUpsert, Key: "k", Code: []byte{1}}, api.ErrCode},
		{api.Message{Kind: api.MUpsert, Key: "k", Code: []byte{0x15, 0}}, api.ErrStack},
		{api.Message{Kind: api.MUpsert, Key: "k", Code: []byte{0x15, 1}}, api.ErrOperand},
	} {
		if e := message.Check(s, x.m); e != x.e {
			t.Errorf("%d: %+v: %d, want %d", i, x.m, e, x.e)
		}
		wantMessage(t, s, x.m)
	}
}

// The chapter's bytes that are a message, and those that are none.
func TestExamplesOfDecode(t *testing.T) {
	s := drill.SchemaOf(exampleSchema)
	m, n, e := message.Decode(s, unhex(t, "02 01 6b 00 ff"))
	if e != api.OK || n != 4 || !drill.SameMessage(m, api.Message{Kind: api.MDelete, Key: "k"}) {
		t.Errorf("Decode of a delete and a byte more = %+v, %d, %d", m, n, e)
	}
	for _, text := range []string{"02 01 6b", "02 00 00", "02 01 6b 01 00", "01 01 6b 03 00 0a 02", "03 01 6b 02 15 00", ""} {
		m, n, e := message.Decode(s, unhex(t, text))
		if e != api.ErrMessage || n != 0 || !drill.SameMessage(m, api.Message{}) {
			t.Errorf("Decode(%s) = %+v, %d, %d", text, m, n, e)
		}
		wantDecode(t, s, unhex(t, text))
	}
}

// The chapter's rows, and some more of its table.
func TestExamplesOfApply(t *testing.T) {
	s := drill.SchemaOf(exampleSchema)
	put, add := "put k {n=5,on=true}", "upsert k push 1; addto 0"
	for _, x := range []struct {
		row, end string
		texts    []string
	}{
		{"{n=5,on=true}", "{n=6,on=true}", []string{add}},
		{"none", "none", []string{add}},
		{"none", "{n=5,on=true}", []string{put}},
		{`{n=7,tag="x"}`, "{n=5,on=true}", []string{put}},
		{"none", "{n=7,on=true}", []string{put, add, add}},
		{`{n=7,on=true,tag="x"}`, "{n=7,on=true}", []string{put, add, add}},
		{`{n=7,on=true,tag="x"}`, `{n=7,on=true,tag="x"}`, nil},
		{"none", "none", nil},
		{"{n=1}", "none", []string{"delete k"}},
		{"none", "none", []string{"delete k"}},
		{"none", "none", []string{put, "delete k", add}},
		{"none", "{n=1,on=false}", []string{put, "delete k", "upsert k new", add}},
		{"{n=1}", "{n=1,on=false}", []string{"upsert k"}},
		{"none", "none", []string{"upsert k"}},
		{"{n=9223372036854775807}", "{n=-9223372036854775808,on=false}", []string{add}},
		{"{n=1}", "{n=4,on=false}", []string{"upsert a push 1; addto 0", "upsert b push 1; addto 0", "upsert c push 1; addto 0"}},
	} {
		var ms []api.Message
		for _, text := range x.texts {
			ms = append(ms, drill.MessageOf(s, text))
		}
		if got := drill.ShownRow(s, wantApply(t, s, drill.RowOf(s, x.row), ms...)); got != x.end {
			t.Errorf("%q makes of %s: %s, want %s", x.texts, x.row, got, x.end)
		}
	}
}
