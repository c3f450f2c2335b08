package node_test

import (
	"math"
	"math/big"
	"slices"
	"strings"
	"testing"

	"arbor/api"
	"arbor/drill"
	"arbor/node"
)

// bookFitsRoom: in numbers that do not wrap round.
func bookFitsRoom(c api.Config, room int) api.Errno {
	if !bookMeasures(c) {
		return api.ErrConfig
	}
	in := big.NewInt(int64(c.Buffer))
	in.Add(in, big.NewInt(int64(4+2*c.Fanout+17*(c.Fanout-1))))
	if 2+82*c.Leaf > room || in.Cmp(big.NewInt(int64(room))) > 0 {
		return api.ErrConfig
	}
	return api.OK
}

// P16.1: every fanout and leaf, in rooms at the edges and one byte off them; measures and rooms of any size.
func TestFits(t *testing.T) {
	far := []int{math.MinInt, math.MinInt + 1, -1 << 62, -1 << 32, -1, 0, 1, 1 << 32, 1 << 62, math.MaxInt - 1204, math.MaxInt - 178, math.MaxInt - 1, math.MaxInt}
	right := 0
	look := func(c api.Config, room int) {
		e, want := node.Fits(c, room), bookFitsRoom(c, room)
		if e != want {
			t.Fatalf("Fits(%v, %d) = %d, want %d", c, room, e, want)
		}
		if e == api.OK {
			right++
		}
	}
	for fanout := -2; fanout < 70; fanout++ {
		for leaf := -2; leaf < 70; leaf++ {
			for _, buffer := range []int{-115, 0, 114, 115, 116, 1000} {
				for off := -1; off <= 1; off++ {
					look(api.Config{Fanout: fanout, Leaf: leaf, Buffer: buffer}, 2+82*leaf+off)
					look(api.Config{Fanout: fanout, Leaf: leaf, Buffer: buffer}, 4+2*fanout+17*(fanout-1)+buffer+off)
				}
			}
		}
	}
	for _, measure := range far {
		for _, room := range slices.Concat(far, []int{177, 178, 8000}) {
			look(api.Config{Fanout: measure, Leaf: 2, Buffer: 115}, room)
			look(api.Config{Fanout: 4, Leaf: measure, Buffer: 115}, room)
			look(api.Config{Fanout: 4, Leaf: 2, Buffer: measure}, room)
			look(api.Config{Fanout: 64, Leaf: 64, Buffer: measure}, room)
			look(api.Config{Fanout: measure, Leaf: measure, Buffer: measure}, room)
		}
	}
	if right < 1000 {
		t.Errorf("only %d of them fit", right)
	}
}

// P16.1, P16.3: the largest nodes have just the bytes that Fits counts.
func TestLargestNodes(t *testing.T) {
	s := drill.SchemaOf("a:bytes?,b:bytes?,c:bytes?")
	widest := drill.RowOf(s, `{a="01234567890123456789",b="01234567890123456789",c="01234567890123456789"}`).Vals
	key := func(i int) string {
		return strings.Repeat("k", 14) + string([]byte{'a' + byte(i/26), 'a' + byte(i%26)})
	}
	for _, x := range [][2]int{{4, 2}, {5, 3}, {64, 64}} {
		leaf, in := api.Node{Level: 1}, api.Node{Level: 2}
		for i := range x[1] {
			leaf.Entries = append(leaf.Entries, api.Entry{Key: key(i), Vals: widest})
		}
		for i := range x[0] {
			in.Kids = append(in.Kids, i)
			if i > 0 {
				in.Pivots = append(in.Pivots, key(i))
			}
		}
		in.Msgs = []api.Message{{Kind: api.MUpsert, Key: key(0), Code: slices.Repeat([]byte{api.INew}, 96)}}
		c := api.Config{Fanout: x[0], Leaf: x[1], Buffer: 115}
		for _, n := range []api.Node{leaf, in} {
			b, e := node.Encode(s, n)
			if e != api.OK || wantBytes(t, s, n) != api.OK || wantCheck(t, s, c, n) != api.OK {
				t.Fatalf("the largest node of %v: %d", c, e)
			}
			room := max(2+82*c.Leaf, 4+2*c.Fanout+17*(c.Fanout-1)+115)
			if node.Fits(c, room) != api.OK || len(b) > room {
				t.Errorf("%v: a node has %d bytes, the room is %d", c, len(b), room)
			}
			if bare := 2 + 82*c.Leaf; n.Level == 1 && len(b) != bare {
				t.Errorf("%v: the largest leaf has %d bytes, want %d", c, len(b), bare)
			}
			if bare := 4 + 2*c.Fanout + 17*(c.Fanout-1) + 115; n.Level == 2 && len(b) != bare {
				t.Errorf("%v: the largest inner node has %d bytes, want %d", c, len(b), bare)
			}
		}
	}
}

// P16.2: entries, kids and bytes that wait, at the measures and one above them.
func TestCheckAtTheMeasures(t *testing.T) {
	right, wrong := 0, 0
	someNodes(180, 1500, func(f drill.Fitting, n api.Node) {
		size := bookWaiting(f.Schema, n.Msgs)
		for off := -1; off <= 1; off++ {
			for _, c := range []api.Config{
				{Fanout: len(n.Kids) + off, Leaf: 64, Buffer: max(115, size)},
				{Fanout: 64, Leaf: len(n.Entries) + off, Buffer: 1 << 20},
				{Fanout: 64, Leaf: 64, Buffer: size + off},
				{Fanout: 64, Leaf: 64, Buffer: math.MaxInt - 1 + off},
			} {
				if wantCheck(t, f.Schema, c, n) == api.OK {
					right++
				} else {
					wrong++
				}
			}
		}
	})
	if right < 1000 || wrong < 1000 {
		t.Errorf("%d were let pass, %d refused", right, wrong)
	}
}

// P16.2: of a node that does not fit a page and measures that are none, the measures are told.
func TestMeasuresAreToldFirst(t *testing.T) {
	s := exampleSchema()
	for _, c := range []api.Config{{}, {Fanout: 3, Leaf: 2, Buffer: 115}, {Fanout: 4, Leaf: 1, Buffer: 115}, {Fanout: 4, Leaf: 2, Buffer: 114}, {Fanout: 65, Leaf: 2, Buffer: 115}, {Fanout: 4, Leaf: 65, Buffer: 115}} {
		for _, n := range []api.Node{{}, leafOf(s), innerOf(s, "1"), innerOf(s, "1 b 2")} {
			if e := wantCheck(t, s, c, n); e != api.ErrConfig {
				t.Errorf("Check(%v) = %d", c, e)
			}
		}
	}
}
