package drill_test

import (
	"strings"
	"testing"

	"arbor/api"
	"arbor/disk"
	"arbor/drill"
	"arbor/frame"
	"arbor/node"
	"arbor/pager"
)

// Pages have room for nodes of the measures, and not for much more.
func TestGeometries(t *testing.T) {
	for _, c := range drill.Measures() {
		for _, blocks := range []int{4, 100, 1900} {
			g := drill.GeometryOf(c, blocks)
			room := frame.Room(g.Sector * g.Per)
			if pager.Check(g) != api.OK || node.Fits(c, room) != api.OK || (blocks+7)/8 < room-g.Per && node.Fits(c, room-g.Per) == api.OK {
				t.Errorf("%v: %v, room for %d bytes", c, g, room)
			}
		}
	}
}

// grove: pages in a pager, of nodes and of others.
type grove struct {
	t *testing.T
	p *pager.Pager
	s api.Schema
}

func newGrove(t *testing.T) grove {
	g := drill.GeometryOf(drill.Measures()[0], 60)
	d, _ := disk.New(pager.Sectors(g), g.Sector)
	p, e := pager.Format(d, g)
	if e != api.OK {
		t.Fatalf("Format = %d", e)
	}
	return grove{t, p, drill.SchemaOf("n:int")}
}

func (g grove) put(n api.Node) int {
	g.t.Helper()
	kind := api.KindInner
	if n.Level == 1 {
		kind = api.KindLeaf
	}
	body, e := node.Encode(g.s, n)
	if e != api.OK {
		g.t.Fatalf("Encode = %d", e)
	}
	block, _ := g.p.Put(kind, body)
	return block
}

func (g grove) leaf(keys string) int {
	n := api.Node{Level: 1}
	for key := range strings.SplitSeq(keys, "") {
		n.Entries = append(n.Entries, api.Entry{Key: key, Vals: []api.Value{{Kind: api.Int}}})
	}
	return g.put(n)
}

func (g grove) inner(level int, pivots string, kids ...int) int {
	return g.put(api.Node{Level: level, Kids: kids, Pivots: strings.Split(pivots, "")})
}

// wrong: what is told of a tree: by Spots or by Misshapen.
func (g grove) wrong(root int) string {
	list, wrong := drill.Spots(g.p, g.s, root)
	if wrong == "" {
		wrong = drill.Misshapen(g.s, drill.Measures()[0], list)
	}
	return wrong
}

func TestShapes(t *testing.T) {
	g := newGrove(t)
	catalog, _ := g.p.Put(api.KindCatalog, []byte("\x01\x00"))
	one, two := g.leaf("a"), g.leaf("c")
	deep := g.inner(2, "f", g.leaf("e"), g.leaf("f"))
	for _, x := range []struct {
		root int
		want string
	}{
		{g.put(api.Node{Level: 1}), ""},
		{g.leaf("ab"), ""},
		{g.inner(2, "c", one, two), ""},
		{g.inner(3, "e", g.inner(2, "c", g.leaf("a"), g.leaf("cd")), deep), ""},
		{catalog, "is no node's"},
		{59, "cannot be read"},
		{g.inner(2, "c", one, 58), "cannot be read"},
		{g.inner(3, "c", g.inner(2, "b", one, two), g.inner(2, "d", two, g.leaf("d"))), "hangs in two places"},
		{g.inner(2, "c", one, g.put(api.Node{Level: 1})), "too little"},
		{g.inner(2, "d", g.leaf("a"), g.leaf("c")), "out of its range"},
		{g.inner(2, "b", g.leaf("bc"), g.leaf("d")), "out of its range"},
		{g.put(api.Node{Level: 2, Kids: []int{g.leaf("a"), g.leaf("ef")}, Pivots: []string{"e"}, Msgs: []api.Message{{Kind: api.MDelete, Key: "x"}}}), ""},
		{g.inner(3, "e", g.put(api.Node{Level: 2, Kids: []int{one, two}, Pivots: []string{"c"}, Msgs: []api.Message{{Kind: api.MDelete, Key: "x"}}}), deep), "out of its range"},
		{g.inner(3, "e", g.inner(2, "x", one, g.leaf("y")), deep), "out of its range"},
		{g.leaf("abc"), "none of the measures"},
		{g.inner(4, "e", g.inner(2, "c", one, two), deep), "another level"},
		{g.inner(3, "e", one, deep), "another level"},
	} {
		if wrong := g.wrong(x.root); (wrong == "") != (x.want == "") || !strings.Contains(wrong, x.want) {
			t.Errorf("the tree of %d: %q, want %q", x.root, wrong, x.want)
		}
	}
	if pages := drill.Pages(g.p); len(pages) != 58-g.p.Left() || pages[0] != catalog {
		t.Errorf("pages in use: %v, left %d", pages, g.p.Left())
	}
}

// A range has its lower end and not its upper one; two ranges meet where a text is in both.
func TestRangesOfSpots(t *testing.T) {
	p := drill.Spot{Lo: "c", Hi: "f", Node: api.Node{Level: 2, Pivots: []string{"d", "e"}, Kids: []int{7, 8, 9}}}
	open := drill.Spot{Lo: "c", Open: true}
	if p.InRange("b") || !p.InRange("c") || !p.InRange("e\xff") || p.InRange("f") || !open.InRange("z") || open.InRange("b") {
		t.Error("InRange")
	}
	if p.Meets("", "b") || !p.Meets("", "c") || p.Meets("f", "z") || !p.Meets("e", "z") || p.MeetsBelow("", "c") || !p.MeetsBelow("", "d") || !p.MeetsBelow("", "") || p.MeetsBelow("f", "") {
		t.Error("Meets, MeetsBelow")
	}
	kids := p.Kids()
	if len(kids) != 3 || kids[0].Lo != "c" || kids[0].Hi != "d" || kids[1].Lo != "d" || kids[1].Hi != "e" || kids[2].Lo != "e" || kids[2].Hi != "f" || kids[2].Open || kids[2].Block != 9 {
		t.Errorf("Kids = %+v", kids)
	}
	open.Node = p.Node
	if kids = open.Kids(); !kids[2].Open || kids[1].Open || kids[0].Open {
		t.Errorf("Kids = %+v", kids)
	}
}
