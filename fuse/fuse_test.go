package fuse_test

import (
	"math"
	"slices"
	"testing"

	"arbor/api"
	"arbor/drill"
	"arbor/fuse"
	"arbor/lower"
)

// some: messages of each kind: records and none, counter adds to two fields, codes with slack and without, one that makes a record, one that takes it away, one without bytes.
func some(s api.Schema) []api.Message {
	return messagesOf(s,
		"put k {n=9,m=1}", `put k {tag="x"}`, "delete k", "upsert k",
		"upsert k push 1; addto 0", "upsert k push 64; addto 0", "upsert k push -1; addto 1",
		"upsert k new", "upsert k delete", "upsert k clear 2", "upsert k jump 0", "upsert k jump 1; delete; load 0; store 1",
		"upsert k has 1; unless 2; push 1; addto 0", "upsert k clear 1; push 1; addto 0", `upsert k bytes "ab"; store 2`)
}

// P15.2: every two messages, within every number of bytes.
func TestEveryTwoMessages(t *testing.T) {
	s := drill.SchemaOf(exampleSchema)
	for most := range 97 {
		drill.Scripts(some(s), 2, func(ms []api.Message) {
			if _, e := wantFused(t, s, most, ms, exampleRows()[:3]); e != api.OK {
				t.Fatalf("Fuse(%d, %s): %d", most, drill.ShownMessages(s, ms), e)
			}
		})
	}
}

// P15.3: every short list: what comes out is one of the lists to which some order of taking neighbours leads.
func TestEveryShortList(t *testing.T) {
	s := drill.SchemaOf(exampleSchema)
	several := 0
	for _, most := range []int{0, 3, 4, 6, 8, 11, 96} {
		for length := range 4 {
			drill.Scripts(some(s), length, func(ms []api.Message) {
				got, _ := wantFused(t, s, most, ms, exampleRows()[:2])
				outcomes := bookOutcomes(s, most, ms)
				if outcomes[drill.ShownMessages(s, got)] == 0 {
					t.Fatalf("Fuse(%d, %s) = %s, it could be %v", most, drill.ShownMessages(s, ms), drill.ShownMessages(s, got), outcomes)
				}
				if len(outcomes) > 1 {
					several++
				}
			})
		}
	}
	if several < 100 {
		t.Errorf("of only %d lists might come out more than one", several)
	}
}

// P15.3: likewise lists of upserts alone, of which some stay apart.
func TestEveryListOfUpserts(t *testing.T) {
	s := drill.SchemaOf(exampleSchema)
	upserts := messagesOf(s, "upsert k push 1; addto 0", "upsert k push 100; addto 0", "upsert k push 1; addto 1", "upsert k clear 2", "upsert k new; push -1; addto 0", "upsert k has 1; unless 1; clear 1")
	apart := 0
	for _, most := range []int{0, 4, 5, 7, 9, 12} {
		drill.Scripts(upserts, 4, func(ms []api.Message) {
			got, _ := wantFused(t, s, most, ms, exampleRows()[2:3])
			if outcomes := bookOutcomes(s, most, ms); outcomes[drill.ShownMessages(s, got)] == 0 {
				t.Fatalf("Fuse(%d, %s) = %s, it could be %v", most, drill.ShownMessages(s, ms), drill.ShownMessages(s, got), outcomes)
			}
			if len(got) > 1 && len(got) < len(ms) {
				apart++
			}
		})
	}
	if apart < 1000 {
		t.Errorf("only %d lists became shorter and were more than one message", apart)
	}
}

// P15.3 to P15.6: long lists of messages by chance.
func TestLongLists(t *testing.T) {
	numbers := drill.Numbers(174)
	for _, s := range drill.Schemas() {
		fitting := drill.Fitting{Schema: s, Numbers: &numbers}
		lengths, base := map[int]int{}, fitting.Rows(0)
		for range 2500 {
			key, kinds := drill.Pick(&numbers, drill.Keys()), numbers.Below(3)
			var ms []api.Message
			for range numbers.Below(12) {
				m := fitting.Message(key)
				if kinds > 0 {
					m = api.Message{Kind: api.MUpsert, Key: key, Code: fitting.CodeBytes()}
				}
				ms = append(ms, m)
			}
			got, e := wantFused(t, s, numbers.Below(97), ms, append(base, fitting.Row(), fitting.Row()))
			if e != api.OK {
				t.Fatalf("Fuse(%s): %d", drill.ShownMessages(s, ms), e)
			}
			lengths[len(got)]++
		}
		for length := range 8 {
			if lengths[length] < 10 {
				t.Errorf("%d messages came out %d times", length, lengths[length])
			}
		}
	}
}

// W10: sources, compiled and fused, do what they do one behind the other.
func TestSources(t *testing.T) {
	s := drill.SchemaOf(exampleSchema)
	sources := []string{
		"n += 1", "n += -9223372036854775808", "m += 2", "new; n += 5", "delete", `tag = cat(tag ?? "", "ab")`, "if n > 3 { n = 0; clear tag }", "m max= n", "m = m",
		"if has m { clear m } else { m = n * 2 }", "n min= len(tag ?? \"\")", "if here { delete } else { new }", "n = -n; n += 7",
	}
	numbers := drill.Numbers(175)
	for range 3000 {
		var ms []api.Message
		for range numbers.Below(9) {
			b, e, at := lower.Compile(s, drill.Pick(&numbers, sources))
			if e != api.OK {
				t.Fatalf("%d at %d", e, at)
			}
			ms = append(ms, api.Message{Kind: api.MUpsert, Key: "counter", Code: b})
		}
		wantFused(t, s, numbers.Below(97), ms, exampleRows())
	}
}

// P15.6: counter adds to one field, however many and however great.
func TestManyCounterAdds(t *testing.T) {
	s := drill.SchemaOf(exampleSchema)
	numbers := drill.Numbers(176)
	for _, most := range []int{13, 14, 50, 96} {
		for _, field := range []int64{0, 1} {
			var ms []api.Message
			for range 1000 {
				n := drill.Pick(&numbers, drill.Values(api.Int)).N + int64(numbers.Below(9))
				ms = append(ms, api.Message{Kind: api.MUpsert, Key: "k", Code: drill.CodeBytes([]api.Ins{{Op: api.IPush, N: n}, {Op: api.IAddTo, N: field}})})
			}
			if got, _ := wantFused(t, s, most, ms, exampleRows()); len(got) != 1 || len(got[0].Code) > 13 {
				t.Errorf("Fuse(%d) of %d adds = %s", most, len(ms), drill.ShownMessages(s, got))
			}
		}
	}
	// Two that come to 0 leave a counter add: an absent field becomes present.
	got, _ := wantFused(t, s, 4, messagesOf(s, "upsert k push 5; addto 1", "upsert k push -5; addto 1"), exampleRows())
	if text := drill.ShownMessages(s, got); text != `upsert "k" push 0; addto 1 | ` {
		t.Errorf("adds that come to 0: %s", text)
	}
}

// P15.5: a sum is told by its own size, be it shorter or longer than those that it is made of.
func TestSizesOfSums(t *testing.T) {
	s := drill.SchemaOf(exampleSchema)
	for _, x := range []struct{ a, b, sum, size int64 }{
		{63, 1, 64, 5}, {-64, -1, -65, 5}, {64, -1, 63, 4}, {math.MaxInt64, math.MinInt64, -1, 4}, {math.MaxInt64, -math.MaxInt64, 0, 4},
		{math.MaxInt64, 1, math.MinInt64, 13}, {1 << 61, 1 << 61, 1 << 62, 13}, {math.MinInt64, math.MinInt64, 0, 4}, {8191, 1, 8192, 6},
	} {
		var ms, want []api.Message
		for _, n := range []int64{x.a, x.b} {
			ms = append(ms, api.Message{Kind: api.MUpsert, Key: "k", Code: drill.CodeBytes([]api.Ins{{Op: api.IPush, N: n}, {Op: api.IAddTo}})})
		}
		want = []api.Message{{Kind: api.MUpsert, Key: "k", Code: drill.CodeBytes([]api.Ins{{Op: api.IPush, N: x.sum}, {Op: api.IAddTo}})}}
		if got, _ := wantFused(t, s, int(x.size), ms, exampleRows()); !slices.EqualFunc(got, want, drill.SameMessage) {
			t.Errorf("%d and %d within %d: %s", x.a, x.b, x.size, drill.ShownMessages(s, got))
		}
		if got, _ := wantFused(t, s, int(x.size)-1, ms, exampleRows()); !slices.EqualFunc(got, ms, drill.SameMessage) {
			t.Errorf("%d and %d within %d: %s", x.a, x.b, x.size-1, drill.ShownMessages(s, got))
		}
	}
}

// P15.2, P15.3: what stays apart stays as it is, its slack too; and slack counts where messages might be one.
func TestWhatStaysApartStaysAsItIs(t *testing.T) {
	s := drill.SchemaOf(exampleSchema)
	loose := messagesOf(s, "upsert k jump 0; new", "upsert k push 1; addto 0; push 2; addto 0", "upsert k here; not; not; unless 0", "upsert k jump 1; delete; new")
	for _, m := range loose {
		for most := range 97 {
			if got, _ := wantFused(t, s, most, []api.Message{m}, nil); !slices.EqualFunc(got, []api.Message{m}, drill.SameMessage) {
				t.Errorf("Fuse(%d) of %s alone = %s", most, drill.ShownMessage(s, m), drill.ShownMessages(s, got))
			}
		}
	}
	for _, most := range []int{0, 1, 2} {
		if got, _ := wantFused(t, s, most, loose, exampleRows()); !slices.EqualFunc(got, loose, drill.SameMessage) {
			t.Errorf("Fuse(%d) = %s", most, drill.ShownMessages(s, got))
		}
	}
	idle := messagesOf(s, "upsert k jump 0", "upsert k jump 0", "upsert k")
	for most, want := range map[int]string{
		1: `upsert "k" jump 0 | upsert "k" jump 0 | upsert "k"  | `,
		2: `upsert "k"  | `,
		4: `upsert "k"  | `,
	} {
		if got, _ := wantFused(t, s, most, idle, exampleRows()); drill.ShownMessages(s, got) != want {
			t.Errorf("Fuse(%d) of jumps = %s, want %s", most, drill.ShownMessages(s, got), want)
		}
	}
	// Codes without bytes have the joint size 0.
	if got, _ := wantFused(t, s, 0, slices.Repeat(idle[2:], 5), exampleRows()); len(got) != 1 {
		t.Errorf("Fuse(0) of nothing five times = %s", drill.ShownMessages(s, got))
	}
}

// P15.3: lists far longer than any that waits.
func TestVeryLongLists(t *testing.T) {
	s := drill.SchemaOf(exampleSchema)
	for _, x := range []struct {
		text string
		most int
		left int
	}{
		{"put k {n=1}", 0, 1}, {"delete k", 96, 1}, {"upsert k", 0, 1}, {"upsert k push 1; addto 0", 13, 1}, {"upsert k push 1; addto 0", 3, 1 << 15}, {"upsert k clear 1", 96, 1 << 15 / 48},
	} {
		ms := slices.Repeat(messagesOf(s, x.text), 1<<15)
		got, e := fuse.Fuse(s, x.most, ms...)
		if e != api.OK || len(got) < x.left || len(got) > x.left+1 {
			t.Errorf("%s so often, within %d: %d messages, %d", x.text, x.most, len(got), e)
		}
		ms[len(ms)-1].Key = "j"
		if got, e := fuse.Fuse(s, x.most, ms...); e != api.ErrMixed || len(got) != 0 {
			t.Errorf("%s so often, with another key at the end: %d messages, %d", x.text, len(got), e)
		}
	}
}

// P15.2, P15.3: the schema's error first, then that of most, then that of the first wrong message, then that the keys are not the same.
func TestFuseErrors(t *testing.T) {
	s := drill.Schemas()[0]
	right := messagesOf(s, "put k {n=1}", "upsert k push 1; addto 0", "delete j")
	wrong := drill.WrongMessages(s)
	for i, w := range wrong {
		other := wrong[(i*7+3)%len(wrong)].Part
		for _, ms := range [][]api.Message{{w.Part}, {w.Part, other}, {right[0], w.Part}, {right[2], w.Part}, {right[0], right[2], w.Part, other, right[1]}, {w.Part, right[1]}} {
			if _, e := wantFused(t, s, i%97, ms, nil); e != w.Errno {
				t.Errorf("Fuse(%s) = %d, want %d", drill.ShownMessages(s, ms), e, w.Errno)
			}
			wantFused(t, s, 97, ms, nil)
			wantFused(t, s, -1, ms, nil)
			wantFused(t, api.Schema{}, i%97, ms, nil)
		}
	}
	for _, ms := range [][]api.Message{nil, right[:1], right[:2], right} {
		for _, most := range []int{-1, 97, -97, 1 << 32, -1 << 32, 1<<32 + 5, 256, math.MinInt, math.MaxInt} {
			if _, e := wantFused(t, s, most, ms, nil); e != api.ErrArg {
				t.Errorf("Fuse(%d) of %d messages = %d", most, len(ms), e)
			}
		}
		for _, none := range drill.WrongSchemas() {
			for _, most := range []int{0, 96, -1, 97} {
				if _, e := wantFused(t, none, most, ms, nil); e != api.ErrSchema {
					t.Errorf("Fuse(%d) with no schema = %d", most, e)
				}
			}
		}
	}
}

// P15.2, P15.3: one other key anywhere, whatever the kinds are, though one key begins the other.
func TestMixedKeys(t *testing.T) {
	s := drill.SchemaOf(exampleSchema)
	keys := drill.Keys()
	for i, m := range some(s) {
		for j, other := range keys {
			m.Key = keys[i%len(keys)]
			ms := slices.Repeat([]api.Message{m}, 4)
			for place := range ms {
				ms[place].Key = other
				want := api.ErrMixed
				if other == m.Key {
					want = api.OK
				}
				for _, list := range [][]api.Message{ms, ms[:max(2, place+1)], ms[min(2, place):]} {
					if _, e := wantFused(t, s, 13*j%97, list, nil); e != want {
						t.Errorf("Fuse of keys %q and %q = %d, want %d", m.Key, other, e, want)
					}
				}
				ms[place].Key = m.Key
			}
		}
	}
}
