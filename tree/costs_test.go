package tree_test

import (
	"testing"

	"arbor/api"
	"arbor/drill"
	"arbor/node"
)

// ledger: what the calls have cost from New on, each with one message, and what P17.10 bounds that by.
type ledger struct {
	*world
	calls, read, written int
	high                 int
	size                 int
	keys                 map[string]int
	putsAlone, noUpserts bool
}

func newLedger(t *testing.T, s api.Schema, c api.Config) *ledger {
	t.Helper()
	w := plant(t, drill.GeometryOf(c, 1900), s, c)
	return &ledger{world: w, high: 1, keys: map[string]int{}, putsAlone: true, noUpserts: true}
}

// book: a call, and all bounds behind it.
func (l *ledger) book(m api.Message) {
	l.t.Helper()
	room := l.hasRoom(m)
	read, written := l.costs(func() { l.apply(m) })
	if room && (read > 1 || written != 1) {
		l.t.Fatalf("%v: a message that has room: %d pages are read, %d written", l.c, read, written)
	}
	l.calls++
	l.read += read
	l.written += written
	high, _ := l.x.Height()
	l.high = max(l.high, high)
	l.size += sizeOf(l.s, m)
	l.keys[m.Key]++
	l.putsAlone = l.putsAlone && m.Kind == api.MPut
	l.noUpserts = l.noUpserts && m.Kind != api.MUpsert
	l.within()
}

// hasRoom: P17.10, 1.
func (l *ledger) hasRoom(m api.Message) bool {
	f, _ := l.p.Get(l.x.Root())
	root, _ := node.Decode(l.s, f.Body)
	for _, waiting := range root.Msgs {
		if waiting.Key == m.Key {
			return false
		}
	}
	return root.Level > 1 && sizeOf(l.s, root.Msgs...)+sizeOf(l.s, m) <= l.c.Buffer
}

// within: P17.10, 2 to 4.
func (l *ledger) within() {
	l.t.Helper()
	m, h, half := l.calls, l.high, l.c.Leaf/2
	if l.written > 12*m*h || l.read > 24*m*h {
		l.t.Fatalf("%v: %d calls, height %d: %d pages written, %d read", l.c, m, h, l.written, l.read)
	}
	if most := m + up(l.size*(h-1)*l.c.Fanout, l.c.Buffer) + up(2*len(l.keys), half) + h; l.putsAlone && l.written > most {
		l.t.Fatalf("%v: %d puts of %d bytes and %d keys, height %d: %d pages written, %d at most", l.c, m, l.size, len(l.keys), h, l.written, most)
	}
	if most := m + up(4*m, half) + up(32*l.size*h*l.c.Fanout, l.c.Buffer) + 8*h; l.noUpserts && l.written > most {
		l.t.Fatalf("%v: %d puts and deletes of %d bytes, height %d: %d pages written, %d at most", l.c, m, l.size, h, l.written, most)
	}
}

func up(number, by int) int {
	return (number + by - 1) / by
}

// orders: of so many keys: rising, falling, from both ends, by chance, by steps, few of them again and again.
func orders(numbers *drill.Numbers) []func(i, many int) int {
	return []func(i, many int) int{
		func(i, many int) int { return i },
		func(i, many int) int { return many - 1 - i },
		func(i, many int) int { return i/2 + i%2*(many-1-i) },
		func(i, many int) int { return numbers.Below(many) },
		func(i, many int) int { return i * 37 % many },
		func(i, many int) int { return i % 5 * many / 5 },
	}
}

// inOrder: keys that rise with their numbers.
func inOrder(number int) string {
	return string([]byte{byte(number / 256), byte(number), 'k'}[:2+number%2])
}

// P17.10, 1 to 3: puts alone.
func TestCostsOfPuts(t *testing.T) {
	numbers := drill.Numbers(186)
	for _, c := range drill.Measures() {
		for _, order := range orders(&numbers) {
			l := newLedger(t, drill.Pick(&numbers, drill.Schemas()), c)
			f := drill.Fitting{Schema: l.s, Numbers: &numbers}
			for i := range 250 {
				l.book(putOf(f, inOrder(order(i, 250))))
			}
			l.shape()
		}
	}
}

// P17.10, 1, 2 and 4: puts, and deletes of the same keys in the same order or another, again and again.
func TestCostsOfPutsAndDeletes(t *testing.T) {
	numbers := drill.Numbers(187)
	s := drill.SchemaOf("n:int")
	for _, c := range drill.Measures() {
		list := orders(&numbers)
		for i, order := range list {
			l := newLedger(t, s, c)
			f := drill.Fitting{Schema: s, Numbers: &numbers}
			for round := range 4 {
				for at := range 90 {
					if round%2 == 0 {
						l.book(putOf(f, inOrder(order(at, 90))))
					} else {
						l.book(deleteOf(inOrder(list[(i+round/2)%len(list)](at, 90))))
					}
				}
			}
			l.shape()
		}
	}
}

// P17.10, 4: a tree that is kept at the edge: what splits a node is followed by what makes it join again.
func TestCostsAtTheEdge(t *testing.T) {
	s := drill.SchemaOf("n:int")
	numbers := drill.Numbers(188)
	f := drill.Fitting{Schema: s, Numbers: &numbers}
	for _, c := range drill.Measures() {
		for _, swing := range []int{1, 2, 7, 30} {
			l := newLedger(t, s, c)
			for at := range 60 {
				l.book(putOf(f, inOrder(at*7%60*50)))
			}
			for round := range 12 {
				for at := range swing {
					l.book(putOf(f, inOrder(1475+at)))
				}
				for at := range swing {
					l.book(deleteOf(inOrder(1475 + (at+round)%swing)))
				}
			}
			l.shape()
			for at := range 60 {
				l.book(deleteOf(inOrder(at * 50)))
			}
			l.shape()
		}
	}
}

// P17.10, 1 and 2: messages of all kinds.
func TestCostsOfAllKinds(t *testing.T) {
	numbers := drill.Numbers(189)
	for _, c := range drill.Measures() {
		for _, keys := range []int{10, 60, 300} {
			l := newLedger(t, drill.Pick(&numbers, drill.Schemas()), c)
			f := drill.Fitting{Schema: l.s, Numbers: &numbers}
			for i := range 300 {
				m := f.Message(inOrder(numbers.Below(keys)))
				if i/100%2 == 0 && numbers.Below(2) == 0 {
					m = putOf(f, m.Key)
				}
				l.book(m)
			}
			l.shape()
		}
	}
}

// P17.10, 3: puts of the same keys again and again: no new nodes pay for them, so that messages must sink level by level, many at a time.
func TestCostsOfPutsOfTheSameKeys(t *testing.T) {
	numbers := drill.Numbers(190)
	s := drill.SchemaOf("n:int")
	f := drill.Fitting{Schema: s, Numbers: &numbers}
	for _, c := range []api.Config{{Fanout: 4, Leaf: 2, Buffer: 1000}, {Fanout: 8, Leaf: 4, Buffer: 2500}, {Fanout: 4, Leaf: 64, Buffer: 5000}} {
		l := newLedger(t, s, c)
		for range 1500 {
			l.book(putOf(f, inOrder(numbers.Below(200*c.Leaf))))
		}
		l.shape()
		l.scans(l.x, "", "")
	}
}

// P17.10, 3: a root that is full of messages for all kids, while puts come for one of them alone: the first, the last, or another.
func TestCostsOfPutsToOnePlace(t *testing.T) {
	numbers := drill.Numbers(200)
	s := drill.SchemaOf("n:int")
	f := drill.Fitting{Schema: s, Numbers: &numbers}
	for _, c := range []api.Config{{Fanout: 16, Leaf: 9, Buffer: 900}, {Fanout: 64, Leaf: 2, Buffer: 900}, {Fanout: 4, Leaf: 9, Buffer: 400}} {
		for _, place := range []int{0, 70, 145} {
			l := newLedger(t, s, c)
			for at := range 150 {
				l.book(putOf(f, inOrder(at*37%150)))
			}
			for at := range 900 {
				l.book(putOf(f, inOrder(place+at%5)))
			}
			l.shape()
		}
	}
}

// P17.10, 3: so where buffers are long a change costs its one page and a small share of others.
func TestLongBuffersShareTheWay(t *testing.T) {
	l := newLedger(t, drill.SchemaOf("n:int"), api.Config{Fanout: 4, Leaf: 64, Buffer: 5000})
	numbers := drill.Numbers(201)
	f := drill.Fitting{Schema: l.s, Numbers: &numbers}
	for i := range 2500 {
		l.book(putOf(f, inOrder(i*617%2500)))
	}
	if l.high < 3 || l.written > l.calls*11/10 {
		t.Errorf("%d puts, height %d: %d pages written", l.calls, l.high, l.written)
	}
}
