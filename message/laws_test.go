package message_test

import (
	"testing"

	"arbor/api"
	"arbor/code"
	"arbor/drill"
	"arbor/lower"
	"arbor/machine"
	"arbor/meaning"
	"arbor/message"
)

// What follows from the promises, by the chapter.

// someMessages: as many as it happens, of keys by chance.
func someMessages(fitting drill.Fitting, most int) []api.Message {
	ms := make([]api.Message, fitting.Numbers.Below(most+1))
	for i := range ms {
		ms[i] = fitting.Message(drill.Pick(fitting.Numbers, drill.Keys()))
	}
	return ms
}

// Of messages that are written one behind the other each is found again, one by one.
func TestMessagesOneBehindTheOther(t *testing.T) {
	numbers := drill.Numbers(156)
	for _, s := range drill.Schemas() {
		fitting := drill.Fitting{Schema: s, Numbers: &numbers}
		for range 500 {
			ms := someMessages(fitting, 12)
			var b []byte
			for _, m := range ms {
				one, _ := message.Encode(s, m)
				b = append(b, one...)
			}
			for _, m := range ms {
				got, n, e := message.Decode(s, b)
				if e != api.OK || n != message.Size(s, m) || !drill.SameMessage(got, m) {
					t.Fatalf("Decode = %s, %d, %d, want %s", drill.ShownMessage(s, got), n, e, drill.ShownMessage(s, m))
				}
				b = b[n:]
			}
			if _, _, e := message.Decode(s, b); e != api.ErrMessage || len(b) > 0 {
				t.Fatalf("% x is left over, and Decode answers %d", b, e)
			}
		}
	}
}

// The bytes that Decode takes are those that Encode gives for what it found.
func TestEncodeOfDecode(t *testing.T) {
	numbers, right := drill.Numbers(157), 0
	s := drill.SchemaOf(exampleSchema)
	for range 200000 {
		b := make([]byte, 4+numbers.Below(8))
		for i := range b {
			b[i] = drill.Pick(&numbers, []byte{0, 1, 2, 3, 4, 7, 0x14, 0x15, 0x17, 0x18, 'k'})
		}
		m, n, e := message.Decode(s, b)
		if e != api.OK {
			continue
		}
		right++
		raw, e := message.Encode(s, m)
		if e != api.OK || string(raw) != string(b[:n]) || message.Size(s, m) != n {
			t.Fatalf("Decode(% x) = %s, %d; Encode of it = % x, %d", b, drill.ShownMessage(s, m), n, raw, e)
		}
	}
	if right < 1000 {
		t.Errorf("only %d of them are messages", right)
	}
}

// ApplyAll of two lists one behind the other is ApplyAll of the second on what ApplyAll of the first made; and what comes out is a row of the schema.
func TestListsOneBehindTheOther(t *testing.T) {
	numbers := drill.Numbers(158)
	for _, s := range drill.Schemas() {
		fitting := drill.Fitting{Schema: s, Numbers: &numbers}
		for range 2000 {
			ms, row := someMessages(fitting, 6), fitting.Row()
			want, e := message.ApplyAll(s, row, ms...)
			if e != api.OK || !isRow(s, want) {
				t.Fatalf("ApplyAll(%s) on %s = %+v, %d", drill.ShownMessages(s, ms), drill.ShownRow(s, row), want, e)
			}
			for cut := range len(ms) + 1 {
				between, _ := message.ApplyAll(s, row, ms[:cut]...)
				got, e := message.ApplyAll(s, between, ms[cut:]...)
				if e != api.OK || !drill.SameRow(got, want) {
					t.Fatalf("ApplyAll(%s) on %s, cut at %d: %+v, %d, want %+v", drill.ShownMessages(s, ms), drill.ShownRow(s, row), cut, got, e, want)
				}
			}
			one := row
			for _, m := range ms {
				one, _ = message.Apply(s, one, m)
			}
			if !drill.SameRow(one, want) {
				t.Fatalf("%s on %s, one by one: %+v, want %+v", drill.ShownMessages(s, ms), drill.ShownRow(s, row), one, want)
			}
		}
	}
}

// What stands ahead of a put or a delete does not matter.
func TestWhatStandsAheadDoesNotMatter(t *testing.T) {
	numbers := drill.Numbers(159)
	for _, s := range drill.Schemas() {
		fitting := drill.Fitting{Schema: s, Numbers: &numbers}
		for range 1000 {
			last := fitting.Message("k")
			if last.Kind == api.MUpsert {
				continue
			}
			behind := someMessages(fitting, 3)
			want, _ := message.ApplyAll(s, api.Row{}, append([]api.Message{last}, behind...)...)
			for range 3 {
				ms := append(append(someMessages(fitting, 3), last), behind...)
				if got, e := message.ApplyAll(s, fitting.Row(), ms...); e != api.OK || !drill.SameRow(got, want) {
					t.Fatalf("ApplyAll(%s) = %+v, %d, want %+v", drill.ShownMessages(s, ms), got, e, want)
				}
			}
		}
	}
}

// The table: what an upsert makes of a row is what machine.Exec makes of it.
func TestUpsertsAreRunByTheMachine(t *testing.T) {
	messagesOf(160, 3000, func(fitting drill.Fitting, m api.Message) {
		s, row := fitting.Schema, fitting.Row()
		if m.Kind != api.MUpsert {
			return
		}
		want, e := machine.Exec(s, m.Code, row)
		if got, f := message.Apply(s, row, m); e != f || !drill.SameRow(got, want) {
			t.Fatalf("Apply(%s) on %s = %+v, %d, want %+v, %d", drill.ShownMessage(s, m), drill.ShownRow(s, row), got, f, want, e)
		}
	})
}

// A source means what it says: the upsert of its code makes of every row what meaning.Run makes of it.
func TestASourceMeansWhatItSays(t *testing.T) {
	numbers := drill.Numbers(161)
	for _, s := range drill.Schemas() {
		fitting, taken := drill.Fitting{Schema: s, Numbers: &numbers}, 0
		for i := range 4000 {
			src := drill.Shown(fitting.Program(2 + i%4))
			b, e, _ := lower.Compile(s, src)
			if e != api.OK {
				continue
			}
			taken++
			for range 3 {
				wantMeaning(t, s, src, b, fitting.Row())
			}
			wantMeaning(t, s, src, b, api.Row{})
		}
		if taken < 1500 {
			t.Errorf("only %d sources were taken", taken)
		}
	}
}

func wantMeaning(t *testing.T, s api.Schema, src string, b []byte, row api.Row) {
	t.Helper()
	want, _ := meaning.Run(s, drill.ProgramOf(src), row)
	m := api.Message{Kind: api.MUpsert, Key: "k", Code: b}
	if got := wantApply(t, s, row, m); !drill.SameRow(got, want) {
		t.Fatalf("%s on %s: %s, it means %s", src, drill.ShownRow(s, row), drill.ShownRow(s, got), drill.ShownRow(s, want))
	}
	if wantMessage(t, s, m) != api.OK {
		t.Fatalf("%s: its upsert is refused", src)
	}
}

// The examples of the whole, as far as upserts go: sources, one behind the other.
func TestSourcesOneBehindTheOther(t *testing.T) {
	s := drill.SchemaOf("n:int,tag:bytes?")
	for _, x := range []struct {
		row, end string
		sources  []string
	}{
		{"none", `{n=12,tag="x"}`, []string{"new; n += 5", `n += 7; tag = "x"`}},
		{"none", "none", []string{"n += 1"}},
		{`{n=12,tag="x"}`, `{n=-9223372036854775797,tag="xy"}`, []string{`if has tag and len(tag ?? "") < 3 { tag = cat(tag ?? "", "y") } else { clear tag }`, "n = 9223372036854775807 + n"}},
		{"{n=1}", "none", []string{"if n > 0 { delete }"}},
	} {
		var ms []api.Message
		for _, src := range x.sources {
			b, e, at := lower.Compile(s, src)
			if e != api.OK {
				t.Fatalf("%s: %d at %d", src, e, at)
			}
			ms = append(ms, api.Message{Kind: api.MUpsert, Key: "a", Code: b})
		}
		if got := drill.ShownRow(s, wantApply(t, s, drill.RowOf(s, x.row), ms...)); got != x.end {
			t.Errorf("%q on %s: %s, want %s", x.sources, x.row, got, x.end)
		}
	}
}

// Two upserts one behind the other do what the one of their codes laid together does.
func TestCodesLaidTogether(t *testing.T) {
	numbers, both := drill.Numbers(162), 0
	for _, s := range drill.Schemas() {
		fitting := drill.Fitting{Schema: s, Numbers: &numbers}
		for range 2000 {
			a, b := fitting.CodeBytes(), fitting.CodeBytes()
			whole := append(append([]byte{}, a...), b...)
			if _, e := code.Decode(whole); e != api.OK {
				continue
			}
			both++
			row := fitting.Row()
			want := wantApply(t, s, row, api.Message{Kind: api.MUpsert, Key: "k", Code: a}, api.Message{Kind: api.MUpsert, Key: "k", Code: b})
			if got := wantApply(t, s, row, api.Message{Kind: api.MUpsert, Key: "k", Code: whole}); !drill.SameRow(got, want) {
				t.Fatalf("% x and % x on %s: %+v, want %+v", a, b, drill.ShownRow(s, row), got, want)
			}
		}
	}
	if both < 1000 {
		t.Errorf("only %d pairs were laid together", both)
	}
}
