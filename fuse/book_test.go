package fuse_test

import (
	"bytes"
	"maps"
	"slices"
	"testing"

	"arbor/api"
	"arbor/code"
	"arbor/drill"
	"arbor/fuse"
	"arbor/message"
	"arbor/value"
)

// The chapter's words once more, by other means than the program: the joint size is a sum with a discount where two codes meet; what may come out of Fuse is every list to which some order of taking neighbours leads; what codes and messages do is told by the stand-in for the machine.

func bookMeet(a, b []api.Ins) bool {
	if len(a) < 2 || len(b) < 2 {
		return false
	}
	end, begin := a[len(a)-2:], b[:2]
	return end[0].Op == api.IPush && end[1].Op == api.IAddTo && begin[0].Op == api.IPush && begin[1] == end[1] && !drill.JumpsTo(a, len(a)-1, len(a))
}

func bookJoint(a, b []api.Ins) int {
	size := drill.CodeSize(a) + drill.CodeSize(b)
	if bookMeet(a, b) {
		push, other := a[len(a)-2], b[0]
		both := api.Ins{Op: api.IPush, N: push.N + other.N}
		size += drill.CodeSize([]api.Ins{both}) - drill.CodeSize([]api.Ins{push, other, a[len(a)-1]})
	}
	return size
}

// isCounterAdd: a code of just a push and an addto.
func isCounterAdd(is []api.Ins) bool {
	return len(is) == 2 && is[0].Op == api.IPush && is[1].Op == api.IAddTo
}

func areCounterAdds(a, b []api.Ins) bool {
	return isCounterAdd(a) && isCounterAdd(b) && a[1] == b[1]
}

// bookFuseErrno: the error of the first question that is answered with yes.
func bookFuseErrno(s api.Schema, most int, ms []api.Message) api.Errno {
	wrong := slices.IndexFunc(ms, func(m api.Message) bool { return message.Check(s, m) != api.OK })
	mixed := slices.ContainsFunc(ms, func(m api.Message) bool { return m.Key != ms[len(ms)-1].Key })
	switch {
	case value.CheckSchema(s) != api.OK:
		return api.ErrSchema
	case most < 0, most > 96:
		return api.ErrArg
	case wrong >= 0:
		return message.Check(s, ms[wrong])
	case mixed:
		return api.ErrMixed
	}
	return api.OK
}

func codeOf(m api.Message) []api.Ins {
	is, _ := code.Decode(m.Code)
	return is
}

// bookOne: the one message that two can be; or the two.
func bookOne(s api.Schema, most int, a, b api.Message) []api.Message {
	if b.Kind != api.MUpsert {
		return []api.Message{b}
	}
	if a.Kind != api.MUpsert {
		row := drill.PlayMessages(s, api.Row{}, a, b)
		kind := map[bool]int{true: api.MPut, false: api.MDelete}[row.Here]
		return []api.Message{{Kind: kind, Key: a.Key, Vals: row.Vals}}
	}
	if bookJoint(codeOf(a), codeOf(b)) > most {
		return []api.Message{a, b}
	}
	is, _ := fuse.Concat(s, codeOf(a), codeOf(b))
	return []api.Message{{Kind: api.MUpsert, Key: a.Key, Code: drill.CodeBytes(is)}}
}

// bookOutcomes: the texts of all that may come out, whichever neighbours are taken first.
func bookOutcomes(s api.Schema, most int, ms []api.Message) map[string]int {
	outcomes := map[string]int{}
	for i := 1; i < len(ms); i++ {
		if one := bookOne(s, most, ms[i-1], ms[i]); len(one) == 1 {
			maps.Copy(outcomes, bookOutcomes(s, most, slices.Concat(ms[:i-1], one, ms[i+1:])))
		}
	}
	if len(outcomes) == 0 {
		outcomes[drill.ShownMessages(s, ms)]++
	}
	return outcomes
}

// What the tests ask.

// wantConcat: all that P15.1 says of two codes that may be run; what it answers, if their joint size is not too great.
func wantConcat(t *testing.T, s api.Schema, a, b []api.Ins, rows []api.Row) ([]api.Ins, bool) {
	t.Helper()
	got, e := fuse.Concat(s, a, b)
	joint := bookJoint(a, b)
	if joint > 96 {
		wantNoCode(t, s, a, b, api.ErrBig)
		return nil, false
	}
	if slack := drill.Slack(s, got); e != api.OK || slack != "" || drill.CodeSize(got) > joint {
		t.Fatalf("Concat(%s | %s) = %s, %d: %d bytes, the joint size is %d; %s", drill.ShownCode(a), drill.ShownCode(b), drill.ShownCode(got), e, drill.CodeSize(got), joint, slack)
	}
	if want := (api.Ins{Op: api.IPush, N: firstOf(a).N + firstOf(b).N}); areCounterAdds(a, b) && !slices.Equal(got, []api.Ins{want, a[1]}) {
		t.Fatalf("Concat(%s | %s) = %s", drill.ShownCode(a), drill.ShownCode(b), drill.ShownCode(got))
	}
	for _, row := range rows {
		want := drill.Play(s, b, drill.Play(s, a, row))
		if made := drill.Play(s, got, row); !drill.SameRow(made, want) {
			t.Fatalf("Concat(%s | %s) = %s, which makes of %s: %s, want %s", drill.ShownCode(a), drill.ShownCode(b), drill.ShownCode(got), drill.ShownRow(s, row), drill.ShownRow(s, made), drill.ShownRow(s, want))
		}
	}
	if again, e := fuse.Concat(s, a, b); e != api.OK || !slices.Equal(again, got) {
		t.Fatalf("Concat(%s | %s) is %s, and then %s, %d", drill.ShownCode(a), drill.ShownCode(b), drill.ShownCode(got), drill.ShownCode(again), e)
	}
	return got, true
}

// firstOf: the first instruction, if there is one.
func firstOf(is []api.Ins) api.Ins {
	return append(slices.Clone(is), api.Ins{})[0]
}

func wantNoCode(t *testing.T, s api.Schema, a, b []api.Ins, want api.Errno) {
	t.Helper()
	if got, e := fuse.Concat(s, a, b); e != want || len(got) != 0 {
		t.Fatalf("Concat(%.200s | %.200s) = %.200s, %d, want %d", drill.ShownCode(a), drill.ShownCode(b), drill.ShownCode(got), e, want)
	}
}

// wantFused: all that P15.2 to P15.6 say of messages; what comes out, and the error.
func wantFused(t *testing.T, s api.Schema, most int, ms []api.Message, rows []api.Row) ([]api.Message, api.Errno) {
	t.Helper()
	want := bookFuseErrno(s, most, ms)
	got, e := fuse.Fuse(s, most, ms...)
	if e != want || want != api.OK && len(got) != 0 {
		t.Fatalf("Fuse(%d, %s) = %s, %d, want %d", most, drill.ShownMessages(s, ms), drill.ShownMessages(s, got), e, want)
	}
	wantPair(t, s, most, ms, got, e)
	if e != api.OK {
		return got, e
	}
	wantSettled(t, s, most, ms, got)
	wantShorter(t, s, most, ms, got)
	for _, row := range rows {
		if made, want := drill.PlayMessages(s, row, got...), drill.PlayMessages(s, row, ms...); !drill.SameRow(made, want) {
			t.Fatalf("Fuse(%d, %s) = %s, which make of %s: %s, want %s", most, drill.ShownMessages(s, ms), drill.ShownMessages(s, got), drill.ShownRow(s, row), drill.ShownRow(s, made), drill.ShownRow(s, want))
		}
	}
	for _, again := range [][]api.Message{ms, got} {
		if l, e := fuse.Fuse(s, most, again...); e != api.OK || !slices.EqualFunc(l, got, drill.SameMessage) {
			t.Fatalf("Fuse(%d, %s) = %s, and then %s, %d", most, drill.ShownMessages(s, again), drill.ShownMessages(s, got), drill.ShownMessages(s, l), e)
		}
	}
	return got, e
}

// wantPair: of two messages Pair answers what the book says, and what Fuse does.
func wantPair(t *testing.T, s api.Schema, most int, ms, fused []api.Message, errno api.Errno) {
	t.Helper()
	if len(ms) != 2 {
		return
	}
	var want []api.Message
	if errno == api.OK {
		want = bookOne(s, most, ms[0], ms[1])
	}
	if got, e := fuse.Pair(s, most, ms[0], ms[1]); e != errno || !slices.EqualFunc(got, want, drill.SameMessage) || !slices.EqualFunc(fused, want, drill.SameMessage) {
		t.Fatalf("Pair(%d, %s) = %s, %d, Fuse says %s, want %s, %d", most, drill.ShownMessages(s, ms), drill.ShownMessages(s, got), e, drill.ShownMessages(s, fused), drill.ShownMessages(s, want), errno)
	}
}

// wantSettled: P15.4.
func wantSettled(t *testing.T, s api.Schema, most int, ms, got []api.Message) {
	t.Helper()
	for i, m := range got {
		given := slices.ContainsFunc(ms, func(one api.Message) bool { return drill.SameMessage(one, m) })
		if message.Check(s, m) != api.OK || m.Key != ms[0].Key || m.Kind == api.MUpsert && len(m.Code) > most && !given {
			t.Fatalf("Fuse(%d, %s) has %s", most, drill.ShownMessages(s, ms), drill.ShownMessage(s, m))
		}
		if i > 0 && len(bookOne(s, most, got[i-1], m)) == 1 {
			t.Fatalf("Fuse(%d, %s) = %s: two of them can be one", most, drill.ShownMessages(s, ms), drill.ShownMessages(s, got))
		}
	}
	known := slices.ContainsFunc(ms, func(m api.Message) bool { return m.Kind != api.MUpsert })
	if len(got) > len(ms) || len(ms) > 0 && len(got) == 0 || known && (len(got) != 1 || got[0].Kind == api.MUpsert) {
		t.Fatalf("Fuse(%d, %s) = %s", most, drill.ShownMessages(s, ms), drill.ShownMessages(s, got))
	}
}

// wantShorter: P15.5, and P15.6 of counter adds alone.
func wantShorter(t *testing.T, s api.Schema, most int, ms, got []api.Message) {
	t.Helper()
	shorter, adds, sum := false, len(ms) > 0 && most >= 13, int64(0)
	for i, m := range ms {
		is := codeOf(m)
		adds = adds && m.Kind == api.MUpsert && areCounterAdds(is, codeOf(ms[0]))
		sum += firstOf(is).N
		if i == 0 {
			continue
		}
		ahead := codeOf(ms[i-1])
		both := []api.Ins{{Op: api.IPush, N: firstOf(is).N + firstOf(ahead).N}, {Op: api.IAddTo}}
		shorter = shorter || m.Kind != api.MUpsert || areCounterAdds(ahead, is) && drill.CodeSize(both) <= most
	}
	if shorter && len(got) >= len(ms) {
		t.Fatalf("Fuse(%d, %s) = %s: not shorter", most, drill.ShownMessages(s, ms), drill.ShownMessages(s, got))
	}
	if !adds {
		return
	}
	want := drill.CodeBytes([]api.Ins{{Op: api.IPush, N: sum}, codeOf(ms[0])[1]})
	if len(got) != 1 || !bytes.Equal(got[0].Code, want) {
		t.Fatalf("Fuse(%d, %s) = %s, want one counter add of %d", most, drill.ShownMessages(s, ms), drill.ShownMessages(s, got), sum)
	}
}

// messagesOf: those of texts.
func messagesOf(s api.Schema, texts ...string) []api.Message {
	var ms []api.Message
	for _, text := range texts {
		ms = append(ms, drill.MessageOf(s, text))
	}
	return ms
}
