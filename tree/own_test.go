package tree_test

import (
	"slices"
	"testing"

	"arbor/api"
	"arbor/drill"
	"arbor/tree"
)

var (
	spareValue = api.Value{Kind: 77, N: 77, S: "spare"}
	spareField = api.Field{Name: "spare"}
)

func roomyMessages(ms []api.Message) []api.Message {
	out := drill.Roomy(ms, api.Message{Key: "spare"})
	for i, m := range ms {
		out[i] = drill.RoomyMessage(m)
	}
	return out
}

// P17.14, R5: messages and schemas that are handed in are neither changed nor kept: what becomes of them later is not seen.
func TestArgumentsAreNotKept(t *testing.T) {
	numbers := drill.Numbers(196)
	for _, c := range drill.Measures() {
		w := plant(t, drill.GeometryOf(c, 900), drill.Pick(&numbers, drill.Schemas()), c)
		f := drill.Fitting{Schema: w.s, Numbers: &numbers}
		fields := drill.Roomy(w.s.Fields, spareField)
		x, e := tree.New(w.p, api.Schema{Fields: fields}, c)
		if e != api.OK || !drill.AsItWas(fields, w.s.Fields, spareField) {
			t.Fatalf("New = %d, and the schema is %v", e, fields)
		}
		drill.Overwrite(fields, spareField)
		w.x = x
		for i := range 120 {
			ms := some(f, 50, 6)
			given := roomyMessages(ms)
			if e := w.x.Apply(given...); e != api.OK {
				t.Fatalf("Apply = %d", e)
			}
			if !slices.EqualFunc(given, ms, drill.MessageAsItWas) || given[:len(ms)+1][len(ms)].Key != "spare" {
				t.Fatalf("messages were changed: %s", drill.ShownMessages(w.s, given))
			}
			for _, m := range given {
				drill.OverwriteMessage(m)
			}
			drill.Overwrite(given, api.Message{Key: "spare"})
			w.note(ms...)
			if i%40 == 0 {
				loaded := drill.Roomy(w.s.Fields, spareField)
				if x, e = tree.Load(w.p, api.Schema{Fields: loaded}, c, w.x.Root()); e != api.OK || !drill.AsItWas(loaded, w.s.Fields, spareField) {
					t.Fatalf("Load = %d, and the schema is %v", e, loaded)
				}
				drill.Overwrite(loaded, spareField)
				w.x = x
			}
			if i%4 == 0 {
				w.holds(w.x)
			}
		}
		w.holds(w.x)
	}
}

// P17.14, R5: what is answered is new memory: no two lists of it share any, and what is done to it is not seen.
func TestAnswersShareNothing(t *testing.T) {
	numbers := drill.Numbers(197)
	for _, c := range drill.Measures() {
		w := grown(t, c, &numbers, 60)
		var lists [][]api.Value
		for range 2 {
			entries, _ := w.x.Scan("", "", 1000)
			for _, entry := range entries {
				lists = append(lists, entry.Vals)
			}
			for _, vals := range w.x.All("", "") {
				lists = append(lists, vals)
			}
			for key := range w.rows {
				row, _ := w.x.Get(key)
				lists = append(lists, row.Vals)
			}
		}
		if drill.AnyTwoShare(lists) {
			t.Fatalf("%v: two answers share memory", c)
		}
		for _, vals := range lists {
			drill.Overwrite(vals, spareValue)
		}
		w.holds(w.x)
		for _, vals := range w.x.All("", "") {
			drill.Overwrite(vals, spareValue)
		}
		w.holds(w.x)
	}
}

// R3: a nil tree.
func TestNilTree(t *testing.T) {
	var x *tree.Tree
	if x.Root() != 0 {
		t.Errorf("Root = %d", x.Root())
	}
	if high, e := x.Height(); high != 0 || e != api.ErrArg {
		t.Errorf("Height = %d, %d", high, e)
	}
	for _, ms := range [][]api.Message{nil, {deleteOf("k")}, {{}}} {
		if e := x.Apply(ms...); e != api.ErrArg {
			t.Errorf("Apply = %d", e)
		}
	}
	for _, key := range []string{"", "k"} {
		if row, e := x.Get(key); row.Here || len(row.Vals) > 0 || e != api.ErrArg {
			t.Errorf("Get(%q) = %v, %d", key, row, e)
		}
	}
	for _, limit := range []int{-1, 0, 1} {
		if list, e := x.Scan("", "", limit); len(list) > 0 || e != api.ErrArg {
			t.Errorf("Scan = %v, %d", list, e)
		}
	}
	for key := range x.All("", "") {
		t.Errorf("All gives %q", key)
	}
}

// R4: no messages, as nil and as a list without elements: nothing is done, though the pager could do nothing.
func TestNoMessages(t *testing.T) {
	w := acd(t)
	w.kill()
	root := w.x.Root()
	for _, ms := range [][]api.Message{nil, {}, make([]api.Message, 0, 3)} {
		if e := w.x.Apply(ms...); e != api.OK || w.x.Root() != root {
			t.Errorf("Apply of no messages = %d, root %d, was %d", e, w.x.Root(), root)
		}
	}
}

// R1: calls of many messages end, and happen whole or not at all.
func TestManyMessages(t *testing.T) {
	s := drill.SchemaOf("n:int")
	for _, c := range []api.Config{drill.Measures()[0], drill.Measures()[7]} {
		for _, before := range []int{0, 100} {
			w := plant(t, drill.GeometryOf(c, 300), s, c)
			f := drill.Fitting{Schema: s, Numbers: new(drill.Numbers)}
			for number := range before {
				w.apply(putOf(f, inOrder(number*600)))
			}
			var puts, adds []api.Message
			for number := range 20000 {
				puts = append(puts, putOf(f, inOrder(number)))
				adds = append(adds, drill.MessageOf(s, "upsert once new; push 1; addto 0"))
			}
			w.refused(api.ErrFull, puts...)
			w.apply(puts[:50]...)
			w.apply(adds...)
			w.wantRow("once", "{n=20000}")
			w.shape()
			w.holds(w.x)
		}
	}
}
