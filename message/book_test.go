package message_test

import (
	"bytes"
	"testing"

	"arbor/api"
	"arbor/code"
	"arbor/drill"
	"arbor/message"
	"arbor/value"
)

// The chapter's words once more, by other means than the program: what is wrong with a message is a list of questions in the order of their errors; the message at the head of some bytes is looked for among all that might stand there; what a message does is told by the stand-in for the machine.

// bookCheck: the error of the first question that is answered with yes.
func bookCheck(s api.Schema, m api.Message) api.Errno {
	is, wrong := code.Decode(m.Code)
	_, _, refused := code.Verify(s, is...)
	put, remove, upsert := m.Kind == 1, m.Kind == 2, m.Kind == 3
	for _, question := range []struct {
		yes bool
		e   api.Errno
	}{
		{value.CheckSchema(s) != api.OK, api.ErrSchema},
		{!put && !remove && !upsert, api.ErrMessage},
		{!put && len(m.Vals) != 0, api.ErrMessage},
		{!upsert && len(m.Code) != 0, api.ErrMessage},
		{m.Key == "", api.ErrKey},
		{len(m.Key) > 16, api.ErrKey},
		{put && value.Check(s, m.Vals) != api.OK, api.ErrValue},
		{upsert && wrong != api.OK, api.ErrCode},
		{upsert && refused != api.OK, refused},
	} {
		if question.yes {
			return question.e
		}
	}
	return api.OK
}

// bookEncode: of a message that may be. (Of one that may not be it is some bytes.)
func bookEncode(s api.Schema, m api.Message) []byte {
	record, _ := value.Encode(s, m.Vals)
	body := map[int][]byte{1: record, 2: nil, 3: m.Code}[m.Kind]
	var b bytes.Buffer
	b.WriteByte(byte(m.Kind))
	b.WriteByte(byte(len(m.Key)))
	b.WriteString(m.Key)
	b.WriteByte(byte(len(body)))
	b.Write(body)
	return b.Bytes()
}

// bookDecode: of all keys and bodies that might be cut out of the bytes, those that make a message whose bytes stand at their head: there is one at most.
func bookDecode(t *testing.T, s api.Schema, b []byte) (found api.Message, size int, e api.Errno) {
	t.Helper()
	e = api.ErrMessage
	for key := 1; key <= 16; key++ {
		for body := 0; 3+key+body <= len(b) && body <= 96; body++ {
			m := bookMessage(s, int(b[0]), string(b[2:2+key]), b[3+key:3+key+body])
			if !bytes.Equal(bookEncode(s, m), b[:3+key+body]) || bookCheck(s, m) != api.OK {
				continue
			}
			if e == api.OK {
				t.Fatalf("% x begins with two messages", b)
			}
			found, size, e = m, 3+key+body, api.OK
		}
	}
	return found, size, e
}

func bookMessage(s api.Schema, kind int, key string, body []byte) api.Message {
	m := api.Message{Kind: kind, Key: key}
	switch kind {
	case 1:
		m.Vals, _ = value.Decode(s, body)
	case 3:
		m.Code = body
	}
	return m
}

func isRow(s api.Schema, row api.Row) bool {
	return !row.Here && len(row.Vals) == 0 || row.Here && value.Check(s, row.Vals) == api.OK
}

// What the tests ask.

// wantMessage: what Check, Size and Encode say of a message, and Decode of its bytes, with some others behind them too (P14.2 to P14.4).
func wantMessage(t *testing.T, s api.Schema, m api.Message) api.Errno {
	t.Helper()
	want := bookCheck(s, m)
	if e := message.Check(s, m); e != want {
		t.Fatalf("Check(%s) = %d, want %d", drill.ShownMessage(s, m), e, want)
	}
	if want != api.OK {
		wantRefused(t, s, m, want)
		return want
	}
	b, e := message.Encode(s, m)
	if raw := bookEncode(s, m); e != api.OK || !bytes.Equal(b, raw) || message.Size(s, m) != len(raw) {
		t.Fatalf("Encode(%s) = % x, %d, Size %d, want % x", drill.ShownMessage(s, m), b, e, message.Size(s, m), raw)
	}
	if len(b) > api.MaxMessage {
		t.Fatalf("Encode(%s) = %d bytes", drill.ShownMessage(s, m), len(b))
	}
	for _, tail := range []string{"", "\x00", "\xff", "\x02\x01k\x00", string(b)} {
		got, n, e := message.Decode(s, append(bytes.Clone(b), tail...))
		if e != api.OK || n != len(b) || !drill.SameMessage(got, m) {
			t.Fatalf("Decode(% x, and %q behind it) = %s, %d, %d, want %s", b, tail, drill.ShownMessage(s, got), n, e, drill.ShownMessage(s, m))
		}
	}
	return want
}

// wantRefused: of a message that may not be, nothing but the error, by every call that takes it, whatever the row is (P14.3, P14.5, P14.6).
func wantRefused(t *testing.T, s api.Schema, m api.Message, want api.Errno) {
	t.Helper()
	if b, e := message.Encode(s, m); e != want || len(b) > 0 || message.Size(s, m) != 0 {
		t.Fatalf("Encode(%s) = % x, %d, Size %d, want %d", drill.ShownMessage(s, m), b, e, message.Size(s, m), want)
	}
	for _, row := range []api.Row{{}, {Here: true}} {
		if got, e := message.Apply(s, row, m); e != want || !drill.SameRow(got, api.Row{}) {
			t.Fatalf("Apply(%s) on %+v = %+v, %d, want %d", drill.ShownMessage(s, m), row, got, e, want)
		}
		wantAllRefused(t, s, row, want, m)
		wantAllRefused(t, s, row, want, api.Message{Kind: api.MDelete, Key: "k"}, m, api.Message{})
	}
}

func wantAllRefused(t *testing.T, s api.Schema, row api.Row, want api.Errno, ms ...api.Message) {
	t.Helper()
	if got, e := message.ApplyAll(s, row, ms...); e != want || !drill.SameRow(got, api.Row{}) {
		t.Fatalf("ApplyAll of %d messages on %+v = %+v, %d, want %d", len(ms), row, got, e, want)
	}
}

// wantDecode: what Decode says of some bytes is what the book says.
func wantDecode(t *testing.T, s api.Schema, b []byte) api.Errno {
	t.Helper()
	m, n, e := message.Decode(s, b)
	want, size, errno := bookDecode(t, s, b)
	if e != errno || n != size || !drill.SameMessage(m, want) {
		t.Fatalf("Decode(% x) = %s, %d, %d, want %s, %d, %d", b, drill.ShownMessage(s, m), n, e, drill.ShownMessage(s, want), size, errno)
	}
	return e
}

// wantApply: what messages that may be make of a row that may be; and one alone by Apply too.
func wantApply(t *testing.T, s api.Schema, row api.Row, ms ...api.Message) api.Row {
	t.Helper()
	want := drill.PlayMessages(s, row, ms...)
	got, e := message.ApplyAll(s, row, ms...)
	if e != api.OK || !drill.SameRow(got, want) || !isRow(s, got) {
		t.Fatalf("ApplyAll(%s) on %s = %s, %d, want %s", drill.ShownMessages(s, ms), drill.ShownRow(s, row), drill.ShownRow(s, got), e, drill.ShownRow(s, want))
	}
	if len(ms) != 1 {
		return got
	}
	if one, e := message.Apply(s, row, ms[0]); e != api.OK || !drill.SameRow(one, want) {
		t.Fatalf("Apply(%s) on %s = %s, %d, want %s", drill.ShownMessages(s, ms), drill.ShownRow(s, row), drill.ShownRow(s, one), e, drill.ShownRow(s, want))
	}
	return got
}

// messagesOf: of keys by chance, for rows of each schema.
func messagesOf(seed drill.Numbers, tries int, each func(fitting drill.Fitting, m api.Message)) {
	for _, s := range drill.Schemas() {
		fitting := drill.Fitting{Schema: s, Numbers: &seed}
		for range tries {
			each(fitting, fitting.Message(drill.Pick(&seed, drill.Keys())))
		}
	}
}
