package node_test

import (
	"maps"
	"slices"
	"testing"

	"arbor/api"
	"arbor/drill"
	"arbor/node"
)

// What follows from the chapter's promises.

// Merge of the two parts of a Split into two, with the pivot, is the node that was split.
func TestMergeUndoesSplit(t *testing.T) {
	undone := 0
	someNodes(188, 2000, func(f drill.Fitting, n api.Node) {
		nodes, pivots, e := node.Split(n, 2)
		if e != api.OK {
			return
		}
		undone++
		whole, e := node.Merge(nodes[0], pivots[0], nodes[1])
		wantNode(t, f.Schema, "Merge of Split", whole, e, n, api.OK)
	})
	if undone < 2000 {
		t.Errorf("only %d were split", undone)
	}
}

// Parts of a sound node are sound, and merged one by one they are that node again.
func TestPartsStaySound(t *testing.T) {
	someNodes(189, 600, func(f drill.Fitting, n api.Node) {
		s, units := f.Schema, len(n.Entries)+len(n.Kids)
		if units == 0 {
			return
		}
		nodes, pivots, _ := node.Split(n, 1+f.Numbers.Below(units))
		whole := nodes[0]
		for i, part := range nodes {
			if !bookSound(s, part) {
				t.Fatalf("a part is not sound: %s", shown(s, part))
			}
			if i > 0 {
				whole, _ = node.Merge(whole, pivots[i-1], part)
			}
		}
		wantNode(t, s, "Merge of all parts", whole, api.OK, n, api.OK)
	})
}

// For the fullest kid at least a k-th part of all bytes wait, of k kids; to draw from each kid in turn leaves nothing, and all that was drawn is what waited.
func TestFullestHasItsShare(t *testing.T) {
	someNodes(190, 1500, func(f drill.Fitting, n api.Node) {
		if n.Level == 1 {
			return
		}
		s := f.Schema
		ms, _, _ := node.Draw(n, node.Fullest(s, n))
		if bookWaiting(s, ms)*len(n.Kids) < node.Waiting(s, n) {
			t.Fatalf("%s: for the fullest kid %d bytes wait", shown(s, n), bookWaiting(s, ms))
		}
		rest, drawn := n, []api.Message{}
		for kid := range n.Kids {
			ms, less, e := node.Draw(rest, kid)
			if e != api.OK {
				t.Fatalf("Draw(%s, %d) = %d", shown(s, rest), kid, e)
			}
			rest, drawn = less, append(drawn, ms...)
		}
		if len(rest.Msgs) != 0 || !slices.EqualFunc(drawn, n.Msgs, drill.SameMessage) {
			t.Fatalf("%s: drawn were %s", shown(s, n), drill.ShownMessages(s, drawn))
		}
	})
}

// A node that Check lets pass under measures that fit a room has at most so many bytes.
func TestNodesFitTheirRoom(t *testing.T) {
	passed := 0
	someNodes(191, 3000, func(f drill.Fitting, n api.Node) {
		numbers := f.Numbers
		c := api.Config{Fanout: 4 + numbers.Below(61), Leaf: 2 + numbers.Below(63), Buffer: 115 + numbers.Below(1000)}
		room := 178 + numbers.Below(3000)
		if node.Fits(c, room) != api.OK || node.Check(f.Schema, c, n) != api.OK {
			return
		}
		passed++
		if b, e := node.Encode(f.Schema, n); e != api.OK || len(b) > room {
			t.Fatalf("%v, room %d: %s has %d bytes, %d", c, room, shown(f.Schema, n), len(b), e)
		}
	})
	if passed < 300 {
		t.Errorf("only %d were let pass", passed)
	}
}

// grove: a root over leaves, and the rows that it should hold.
type grove struct {
	t      *testing.T
	f      drill.Fitting
	root   api.Node
	leaves map[int]api.Node
	next   int
	rows   map[string]api.Row
}

// row: as a reader finds it: the entry in the leaf of the key's place, and then what waits in the root.
func (g *grove) row(key string) api.Row {
	row := api.Row{}
	for _, e := range g.leaves[g.root.Kids[node.Child(g.root, key)]].Entries {
		if e.Key == key {
			row = api.Row{Here: true, Vals: e.Vals}
		}
	}
	for _, m := range g.root.Msgs {
		if m.Key == key {
			row = drill.PlayMessages(g.f.Schema, row, m)
		}
	}
	return row
}

func (g *grove) settle(n api.Node, e api.Errno) api.Node {
	if e != api.OK || !bookSound(g.f.Schema, n) {
		g.t.Fatalf("a node came to %s, %d", shown(g.f.Schema, n), e)
	}
	return n
}

func (g *grove) add(m api.Message) {
	g.root = g.settle(node.Add(g.f.Schema, g.root, m))
	g.rows[m.Key] = drill.PlayMessages(g.f.Schema, g.rows[m.Key], m)
}

func (g *grove) sink() {
	place := node.Fullest(g.f.Schema, g.root)
	if g.f.Numbers.Below(2) == 0 {
		place = g.f.Numbers.Below(len(g.root.Kids))
	}
	ms, rest, e := node.Draw(g.root, place)
	g.root = g.settle(rest, e)
	kid := g.root.Kids[place]
	g.leaves[kid] = g.settle(node.Apply(g.f.Schema, g.leaves[kid], ms...))
}

func (g *grove) split() {
	place := g.f.Numbers.Below(len(g.root.Kids))
	leaf := g.leaves[g.root.Kids[place]]
	nodes, pivots, e := node.Split(leaf, 1+g.f.Numbers.Below(max(1, len(leaf.Entries))))
	var kids []int
	for _, n := range nodes {
		g.leaves[g.next] = g.settle(n, e)
		kids = append(kids, g.next)
		g.next++
	}
	delete(g.leaves, g.root.Kids[place])
	g.root = g.settle(node.Replace(g.root, place, place+1, kids, pivots))
}

func (g *grove) join() {
	place := g.f.Numbers.Below(len(g.root.Kids))
	if place == 0 {
		return
	}
	left, right := g.root.Kids[place-1], g.root.Kids[place]
	whole := g.settle(node.Merge(g.leaves[left], g.root.Pivots[place-1], g.leaves[right]))
	delete(g.leaves, left)
	delete(g.leaves, right)
	g.leaves[g.next] = whole
	g.root = g.settle(node.Replace(g.root, place-1, place+1, []int{g.next}, nil))
	g.next++
}

// What a reader finds by going down is changed by Add alone, as its message says: messages that sink, and nodes that are split, merged and replaced, leave it where the key leads.
func TestReadersFindTheSame(t *testing.T) {
	numbers := drill.Numbers(192)
	for _, s := range drill.Schemas() {
		for range 12 {
			f := drill.Fitting{Schema: s, Numbers: &numbers}
			g := &grove{t, f, api.Node{Level: 2, Kids: []int{0}}, map[int]api.Node{0: {Level: 1}}, 1, map[string]api.Row{}}
			for range 150 {
				step := numbers.Below(8)
				switch step {
				case 0:
					g.sink()
				case 1:
					g.split()
				case 2:
					g.join()
				default:
					g.add(f.Message(someKey(&numbers)))
				}
				for _, key := range slices.Sorted(maps.Keys(g.rows)) {
					if got := g.row(key); !drill.SameRow(got, g.rows[key]) {
						t.Fatalf("behind step %d %q is %s, want %s", step, key, drill.ShownRow(s, got), drill.ShownRow(s, g.rows[key]))
					}
				}
				parts, pivots, _ := node.Split(g.root, min(2, len(g.root.Kids)))
				for i := 1; i < len(parts); i++ {
					whole, e := node.Merge(parts[i-1], pivots[i-1], parts[i])
					wantNode(t, s, "the root in two and whole again", whole, e, g.root, api.OK)
				}
			}
			if len(g.root.Kids) < 2 && len(g.rows) < 20 {
				t.Errorf("it has %d leaves and %d keys", len(g.root.Kids), len(g.rows))
			}
		}
	}
}
