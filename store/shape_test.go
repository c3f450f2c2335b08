package store_test

import (
	"slices"
	"testing"

	"arbor/api"
	"arbor/drill"
	"arbor/lower"
	"arbor/message"
	"arbor/node"
	"arbor/pager"
)

// W4: the tree keeps its shape and its costs. A store's pages are those of the store that is opened over all that waits: what it brings back is what was done (TestReplayIsWhatWasDone).

// pages: the tree's nodes now, in their shape; beside them the catalog and the map alone are in use.
func (w *world) pages() []drill.Spot {
	w.t.Helper()
	d := w.d.Survive(everything(w.d))
	opened(w.t, d)
	p, e := pager.Open(d)
	if e != api.OK {
		w.t.Fatalf("pager.Open = %d", e)
	}
	list, wrong := drill.Spots(p, w.s, p.Super().Root)
	if wrong == "" {
		wrong = drill.Misshapen(w.s, w.c, list)
	}
	if wrong != "" {
		w.t.Fatalf("%v, %v: %s", w.g, w.c, wrong)
	}
	want := []int{p.Super().Aux}
	for _, at := range list {
		want = append(want, at.Block)
	}
	slices.Sort(want)
	if got := drill.Pages(p); !slices.Equal(got, want) {
		w.t.Fatalf("%v, %v: the pages %v are in use, want %v", w.g, w.c, got, want)
	}
	return list
}

// W4: behind every accepted call, while a store grows, shrinks, and grows again, with checkpoints and without.
func TestShape(t *testing.T) {
	numbers := drill.Numbers(381)
	for _, c := range drill.Measures() {
		w := found(t, geometryOf(c, 6, 500), c, drill.Pick(&numbers, drill.Schemas()))
		f := drill.Fitting{Schema: w.s, Numbers: &numbers}
		for phase := range 4 {
			for range 25 {
				cs := some(f, 60, 1+numbers.Below(8))
				for i := range cs {
					if phase%2 == 0 && numbers.Below(3) > 0 {
						cs[i] = putOf(f, cs[i].Key)
					} else if phase%2 == 1 && numbers.Below(4) > 0 {
						cs[i] = api.Change{Kind: api.MDelete, Key: cs[i].Key}
					}
				}
				w.do(cs...)
				w.pages()
				if phase > 1 && numbers.Below(5) == 0 {
					w.checkpoint()
					w.pages()
				}
			}
			w.isNow()
		}
	}
}

// W4: space that is given up comes back: however often all keys come and go, the blocks that they need at one time are enough.
func TestSpaceComesBack(t *testing.T) {
	numbers := drill.Numbers(382)
	for _, c := range drill.Measures() {
		w := found(t, geometryOf(c, 6, 8*40+16), c, drill.Pick(&numbers, drill.Schemas()))
		f := drill.Fitting{Schema: w.s, Numbers: &numbers}
		for round := range 12 {
			for number := range 40 {
				w.do(putOf(f, drill.Key(number)))
			}
			w.pages()
			for number := range 40 {
				w.do(api.Change{Kind: api.MDelete, Key: drill.Key(number * (2*round + 1) * 3 % 40)})
			}
			w.pages()
			w.isNow()
		}
	}
}

// W4: a Get reads no more pages than the tree is high.
func TestCostOfGet(t *testing.T) {
	numbers := drill.Numbers(383)
	for _, c := range drill.Measures() {
		w := grown(t, c, &numbers, 6, 60)
		high := w.pages()[0].Node.Level
		for key := range w.rows() {
			was := w.d.Stats()
			w.x.Get(key)
			if is := w.d.Stats(); is.Reads-was.Reads > high*w.g.Per || is.Writes != was.Writes || is.Flushes != was.Flushes {
				t.Fatalf("%v: Get(%q) at height %d: %v behind %v", c, key, high, is, was)
			}
		}
	}
}

// sizeOf: the size of the message of a change.
func (w *world) sizeOf(c api.Change) int {
	m := api.Message{Kind: c.Kind, Key: c.Key, Vals: c.Vals}
	if c.Kind == api.MUpsert {
		m.Code, _, _ = lower.Compile(w.s, c.Src)
	}
	return message.Size(w.s, m)
}

// hasRoom: has a change's message room in a root where none of its key waits?
func (w *world) hasRoom(root api.Node, c api.Change) bool {
	waits := slices.ContainsFunc(root.Msgs, func(m api.Message) bool { return m.Key == c.Key })
	return root.Level > 1 && !waits && node.Waiting(w.s, root)+w.sizeOf(c) <= w.c.Buffer
}

// W4: a change, an upsert as any other, whose message has room in the root and whose record has room in the log: one page read at most, one written and the log record, nothing flushed.
func TestCostOfAChange(t *testing.T) {
	numbers := drill.Numbers(384)
	met := map[int]int{}
	for _, c := range drill.Measures() {
		w := grown(t, c, &numbers, 64, 30)
		f := drill.Fitting{Schema: w.s, Numbers: &numbers}
		w.checkpoint()
		stream := 0
		for range 80 {
			change := f.Change(drill.SomeKey(&numbers, 60))
			length := 2 + 9 + w.sizeOf(change)
			if w.g.Log*(w.g.Sector-17) < stream+length {
				w.checkpoint()
				stream = 0
			}
			room := w.hasRoom(w.pages()[0].Node, change)
			was := w.d.Stats()
			w.do(change)
			if room {
				met[change.Kind]++
				w.costsAPage(was, stream, length)
			}
			stream += length
		}
	}
	if met[api.MPut] < 20 || met[api.MDelete] < 20 || met[api.MUpsert] < 20 {
		t.Errorf("of the kinds %v had room", met)
	}
}

// costsAPage: one page, and the sectors of the log in which a record of that length stands behind the others.
func (w *world) costsAPage(was api.DiskStats, stream, length int) {
	w.t.Helper()
	is, room := w.d.Stats(), w.g.Sector-17
	sectors := (stream+length-1)/room - stream/room + 1
	if is.Reads-was.Reads > w.g.Per || is.Writes-was.Writes != w.g.Per+sectors || is.Flushes != was.Flushes {
		w.t.Fatalf("%v: a change that has room: %v behind %v, of %d sectors of the log", w.c, is, was, sectors)
	}
}

// W3, W4: many keys, in all orders, in few calls and many; the map holds, and the tree is as high as it may be.
func TestManyKeys(t *testing.T) {
	numbers := drill.Numbers(385)
	for _, c := range []api.Config{drill.Measures()[0], drill.Measures()[3], drill.Measures()[7]} {
		s := drill.SchemaOf("n:int")
		w := found(t, geometryOf(c, 20, 1900), c, s)
		f := drill.Fitting{Schema: s, Numbers: &numbers}
		for number := 0; number < 230; number += 1 + number%8 {
			var cs []api.Change
			for i := range 1 + number%8 {
				cs = append(cs, putOf(f, drill.Key((number+i)*71%230)))
			}
			w.do(cs...)
		}
		w.isNow()
		w.pages()
		w.reopen()
		w.isNow()
	}
}
