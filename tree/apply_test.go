package tree_test

import (
	"bytes"
	"maps"
	"slices"
	"testing"

	"arbor/api"
	"arbor/drill"
)

// refused: a call that is to be answered with an error: the tree holds what it held, in the same pages.
func (w *world) refused(want api.Errno, ms ...api.Message) {
	w.t.Helper()
	root, left, pages := w.x.Root(), w.p.Left(), drill.Pages(w.p)
	if e := w.x.Apply(ms...); e != want {
		w.t.Fatalf("%v: Apply(%s) = %d, want %d", w.c, drill.ShownMessages(w.s, ms), e, want)
	}
	if w.x.Root() != root || w.p.Left() != left || !slices.Equal(drill.Pages(w.p), pages) {
		w.t.Fatalf("%v: a call that was refused changed the pages: root %d, was %d, %d left, were %d", w.c, w.x.Root(), root, w.p.Left(), left)
	}
}

// P17.7: what message.Check refuses, from the first message on, ahead of all else.
func TestApplyOfWrongMessages(t *testing.T) {
	for _, s := range drill.Schemas() {
		w := plant(t, drill.GeometryOf(exampleMeasures, 300), s, exampleMeasures)
		f := drill.Fitting{Schema: s, Numbers: new(drill.Numbers)}
		for number := range 9 {
			w.apply(putOf(f, drill.Key(number)))
		}
		wrong := drill.WrongMessages(s)
		was := w.d.Stats()
		for i, m := range wrong {
			root := w.x.Root()
			next := wrong[(i*7+1)%len(wrong)].Part
			for _, ms := range [][]api.Message{{m.Part}, {putOf(f, "k"), m.Part}, {m.Part, putOf(f, "k")}, {deleteOf("k"), m.Part, next}} {
				if e := w.x.Apply(ms...); e != m.Errno || w.x.Root() != root {
					t.Fatalf("Apply(%s) = %d, want %d", drill.ShownMessages(s, ms), e, m.Errno)
				}
			}
		}
		w.p.Begin()
		if e := w.x.Apply(wrong[0].Part); e != wrong[0].Errno {
			t.Errorf("Apply of a wrong message within an operation = %d, want %d", e, wrong[0].Errno)
		}
		if e := w.x.Apply(); e != api.OK {
			t.Errorf("Apply of nothing within an operation = %d", e)
		}
		if e := w.x.Apply(deleteOf("k")); e != api.ErrOp {
			t.Errorf("Apply within an operation = %d", e)
		}
		if w.d.Stats() != was {
			t.Errorf("calls that are refused ahead of all else: %v, were %v", w.d.Stats(), was)
		}
		if e := w.p.Cancel(); e != api.OK {
			t.Errorf("the operation is not open any more: %d", e)
		}
		w.holds(w.x)
		w.shape()
	}
}

// P17.7, P17.8, P17.9: one message at a time, and many: of every measures, while a tree grows, shrinks, and grows again.
func TestGrowsAndShrinks(t *testing.T) {
	numbers := drill.Numbers(180)
	for _, c := range drill.Measures() {
		for _, most := range []int{1, 4, 60} {
			w := plant(t, drill.GeometryOf(c, 700), drill.Pick(&numbers, drill.Schemas()), c)
			f := drill.Fitting{Schema: w.s, Numbers: &numbers}
			for phase := range 4 {
				for i := range 30 {
					ms := some(f, 120, most)
					if numbers.Below(3) > 0 { // puts, and then deletes
						for i, m := range ms {
							ms[i] = putOf(f, m.Key)
							if phase%2 == 1 {
								ms[i] = deleteOf(m.Key)
							}
						}
					}
					w.changed(ms...)
					if i%20 == 0 {
						w.holds(w.x)
					}
				}
			}
			w.emptied()
		}
	}
}

// changed: a call that is accepted: the root is another page, and the tree has its shape.
func (w *world) changed(ms ...api.Message) {
	w.t.Helper()
	root := w.x.Root()
	w.apply(ms...)
	if w.x.Root() == root {
		w.t.Fatalf("%v: the root is the page %d still", w.c, root)
	}
	w.shape()
	for _, m := range ms {
		w.gets(w.x, m.Key)
	}
}

// emptied: the tree without records gives its pages back, as far as messages do not wait in it.
func (w *world) emptied() {
	w.t.Helper()
	for _, key := range slices.Sorted(maps.Keys(w.rows)) {
		w.apply(deleteOf(key))
	}
	w.shape()
	w.holds(w.x)
	if got := w.within("", ""); len(got) > 0 {
		w.t.Fatalf("%v: %s", w.c, w.shown(got))
	}
	w.apply(deleteOf("k"))
	w.scans(w.x, "", "")
}

// P17.8, P17.9: every script of up to four changes of few keys, in the least measures: call by call, and in one call.
func TestEveryShortScript(t *testing.T) {
	s := drill.SchemaOf("n:int")
	var steps []api.Message
	for _, key := range []string{"a", "b", "c", "d"} {
		steps = append(steps, drill.MessageOf(s, "put "+key+" {n=1}"), deleteOf(key))
	}
	steps = append(steps, drill.MessageOf(s, "upsert b new; push 1; addto 0"), drill.MessageOf(s, "upsert c push 1; addto 0"))
	g := drill.GeometryOf(exampleMeasures, 60)
	for length := range 5 {
		drill.Scripts(steps, length, func(script []api.Message) {
			w := plant(t, g, s, exampleMeasures)
			for _, m := range script {
				w.apply(m)
			}
			w.shape()
			w.holds(w.x)
			w.x, w.rows = w.newTree(), map[string]api.Row{}
			w.apply(script...)
			w.holds(w.x)
		})
	}
}

// P17.8: whatever was committed, cancelled, refused or loaded anew meanwhile.
func TestLongScripts(t *testing.T) {
	numbers := drill.Numbers(181)
	for _, c := range drill.Measures() {
		w := plant(t, drill.GeometryOf(c, 1900), drill.Pick(&numbers, drill.Schemas()), c)
		f := drill.Fitting{Schema: w.s, Numbers: &numbers}
		wrong := drill.WrongMessages(w.s)
		for range 400 {
			w.step(f, wrong)
		}
		w.shape()
		w.holds(w.x)
		w.emptied()
	}
}

func (w *world) step(f drill.Fitting, wrong []drill.Wrong[api.Message]) {
	w.t.Helper()
	ms := some(f, 80, 5)
	switch f.Numbers.Below(12) {
	case 0:
		w.commit()
	case 1:
		w.x = w.load(w.p, w.x.Root())
	case 2:
		m := drill.Pick(f.Numbers, wrong)
		w.refused(m.Errno, append(ms, m.Part)...)
	case 3:
		w.p.Begin()
		w.refused(api.ErrOp, ms...)
		w.p.Cancel()
	case 4:
		w.otherPages(f.Numbers)
	case 5:
		w.commit()
		w.p = opened(w.t, w.d)
		w.x = w.load(w.p, w.x.Root())
	case 6:
		w.shape()
		w.holds(w.x)
	default:
		w.apply(ms...)
	}
}

// otherPages: somebody puts a page, or drops one.
func (w *world) otherPages(numbers *drill.Numbers) {
	w.t.Helper()
	if len(w.others) > 3 {
		for block := range w.others {
			if e := w.p.Drop(block); e != api.OK {
				w.t.Fatalf("Drop = %d", e)
			}
			delete(w.others, block)
		}
		return
	}
	body := "somebody's page"[:numbers.Below(16)]
	block, e := w.p.Put(byte(numbers.Below(256)), []byte(body))
	if e != api.OK {
		w.t.Fatalf("Put = %d", e)
	}
	w.others[block] = body
}

// P17.7: where the pager has no room the call is refused, whole, and the tree goes on.
func TestFullPager(t *testing.T) {
	numbers := drill.Numbers(182)
	for _, c := range drill.Measures() {
		full, accepted := 0, 0
		for _, blocks := range []int{4, 7, 12, 20, 33} {
			w := plant(t, drill.GeometryOf(c, blocks), drill.Pick(&numbers, drill.Schemas()), c)
			f := drill.Fitting{Schema: w.s, Numbers: &numbers}
			for range 60 {
				if w.mayBeFull(some(f, 60*c.Leaf, 1+numbers.Below(60))...) {
					full++
				} else {
					accepted++
				}
				if numbers.Below(8) == 0 {
					w.commit()
				}
			}
			w.shape()
			w.holds(w.x)
		}
		if full < 5 || accepted < 5 {
			t.Errorf("%v: %d calls were refused, %d accepted", c, full, accepted)
		}
	}
}

// mayBeFull: a call that is accepted, or refused for want of room: is it?
func (w *world) mayBeFull(ms ...api.Message) bool {
	w.t.Helper()
	root, left := w.x.Root(), w.p.Left()
	e := w.x.Apply(ms...)
	if e == api.OK {
		w.note(ms...)
		return false
	}
	if e != api.ErrFull || w.x.Root() != root || w.p.Left() != left {
		w.t.Fatalf("%v: Apply = %d, root %d, was %d, %d left, were %d", w.c, e, w.x.Root(), root, w.p.Left(), left)
	}
	w.shape()
	return true
}

// P17.7: where a page cannot be read that the call needs, it is refused, whole.
func TestApplyOverDamage(t *testing.T) {
	numbers := drill.Numbers(183)
	for _, c := range drill.Measures() {
		w := grown(t, c, &numbers, 30)
		f := drill.Fitting{Schema: w.s, Numbers: &numbers}
		met := 0
		for _, bad := range w.shape() {
			hurt := w.damaged(func(at drill.Spot) bool { return at.Block != bad.Block })
			for range 10 {
				root, left := hurt.x.Root(), hurt.p.Left()
				e := hurt.x.Apply(some(f, 40, 30)...)
				if e == api.OK {
					continue
				}
				if e != api.ErrDamaged || hurt.x.Root() != root || hurt.p.Left() != left {
					t.Fatalf("%v: Apply over damage = %d, root %d, was %d, %d left, were %d", c, e, hurt.x.Root(), root, hurt.p.Left(), left)
				}
				met++
			}
		}
		if met == 0 {
			t.Errorf("%v: no call met the damage", c)
		}
	}
}

// P17.7: where the power goes the call is refused: Root is what it was.
func TestApplyWithoutPower(t *testing.T) {
	numbers := drill.Numbers(184)
	for _, c := range drill.Measures()[:4] {
		for arm := range 40 {
			w := grown(t, c, &numbers, 8)
			f := drill.Fitting{Schema: w.s, Numbers: &numbers}
			w.d.Arm(arm)
			e, root, left := api.OK, w.x.Root(), 0
			for e == api.OK {
				root, left = w.x.Root(), w.p.Left()
				e = w.x.Apply(some(f, 40, 6)...)
			}
			if e != api.ErrPower || w.x.Root() != root || w.p.Left() != left {
				t.Fatalf("%v: Apply with which the power goes = %d, root %d, was %d", c, e, w.x.Root(), root)
			}
			if e := w.x.Apply(deleteOf("k")); e != api.ErrPower || w.x.Root() != root || w.p.Left() != left {
				t.Fatalf("%v: Apply without power = %d", c, e)
			}
			if e := w.p.Begin(); e != api.OK {
				t.Fatalf("%v: an operation is open still: %d", c, e)
			}
		}
	}
}

// P17.12: a tree that is loaded anew ahead of every call does just what one does that is not, to the page.
func TestLoadedAnewDoesTheSame(t *testing.T) {
	numbers := drill.Numbers(185)
	for _, c := range drill.Measures() {
		s := drill.Pick(&numbers, drill.Schemas())
		a, b := plant(t, drill.GeometryOf(c, 200), s, c), plant(t, drill.GeometryOf(c, 200), s, c)
		f := drill.Fitting{Schema: s, Numbers: &numbers}
		for i := range 150 {
			ms := some(f, 40, 4)
			b.x = b.load(b.p, b.x.Root())
			if e, other := a.x.Apply(ms...), b.x.Apply(ms...); e != other || a.x.Root() != b.x.Root() || a.p.Left() != b.p.Left() {
				t.Fatalf("%v: Apply = %d, %d; the roots are %d, %d", c, e, other, a.x.Root(), b.x.Root())
			}
			if i%30 == 0 {
				a.commit()
				b.commit()
			}
			if !slices.EqualFunc(a.d.Pending(), b.d.Pending(), sameWrite) {
				t.Fatalf("%v: the writes of the two are not the same", c)
			}
		}
		a.commit()
		b.commit()
		if !bytes.Equal(a.d.Image(), b.d.Image()) {
			t.Fatalf("%v: the bytes of the two are not the same", c)
		}
	}
}

func sameWrite(a, b api.Write) bool {
	return a.At == b.At && bytes.Equal(a.Bytes, b.Bytes)
}
