package node_test

import (
	"bytes"
	"slices"
	"testing"

	"arbor/api"
	"arbor/drill"
	"arbor/node"
)

// P16.3: nodes of all sizes, those too large for a page among them.
func TestBytesOfNodes(t *testing.T) {
	right, wrong := 0, 0
	someNodes(181, 3000, func(f drill.Fitting, n api.Node) {
		if wantBytes(t, f.Schema, n) == api.OK {
			right++
		} else {
			wrong++
		}
	})
	if right < 3000 || wrong < 300 {
		t.Errorf("%d fit a page, %d do not", right, wrong)
	}
}

// P16.3: every list of bytes of some at the edges.
func TestDecodeOfEveryShortBytes(t *testing.T) {
	s := exampleSchema()
	all := make([]byte, 256)
	for c := range all {
		all[c] = byte(c)
	}
	right := 0
	look := func(b []byte) {
		if wantDecode(t, s, b) == api.OK {
			right++
		}
	}
	for length := range 3 {
		drill.Scripts(all, length, look)
	}
	for length := 3; length <= 7; length++ {
		drill.Scripts([]byte{0, 1, 2, 3, 'a'}, length, look)
	}
	drill.Scripts([]byte{0, 1, 2, 'a'}, 8, func(tail []byte) { look(append([]byte{2, 2}, tail...)) })
	if right < 200 {
		t.Errorf("only %d of them are nodes", right)
	}
}

// P16.3: bytes one step away from a node's: cut, changed, left out or put in at every place.
func TestSpoiledBytes(t *testing.T) {
	right, wrong := 0, 0
	someNodes(182, 120, func(f drill.Fitting, n api.Node) {
		s, numbers := f.Schema, f.Numbers
		b, e := node.Encode(s, n)
		if e != api.OK || len(b) > 300 {
			return
		}
		for at := range b {
			if got, e := node.Decode(s, b[:at]); e != api.ErrNode || !sameNode(got, api.Node{}) {
				t.Fatalf("Decode of the first %d of % x = %s, %d", at, b, shown(s, got), e)
			}
			for _, raw := range numbers.Spoiled(b, at) {
				if wantDecode(t, s, raw) == api.OK {
					right++
				} else {
					wrong++
				}
			}
		}
		wantDecode(t, s, append(b, byte(numbers.Below(256))))
	})
	if right < 500 || wrong < 500 {
		t.Errorf("%d of them are nodes, %d are none", right, wrong)
	}
}

// P16.3: every level and every number of entries and of kids that a byte can tell.
func TestEveryLevelAndNumber(t *testing.T) {
	s := exampleSchema()
	for number := range 256 {
		leaf, in := []byte{1, byte(number)}, []byte{2, byte(number)}
		for i := range number {
			leaf = append(leaf, 1, byte(i), 1, 0)
			in = append(in, byte(i), byte(i%8))
		}
		for i := 1; i < number; i++ {
			in = append(in, 1, byte(i))
		}
		in = append(in, 0, 0)
		if e := wantDecode(t, s, leaf); (e == api.OK) != (number <= 64) {
			t.Errorf("a leaf of %d entries: %d", number, e)
		}
		if e := wantDecode(t, s, in); (e == api.OK) != (number >= 2 && number <= 64) {
			t.Errorf("an inner node of %d kids: %d", number, e)
		}
		level := byte(number)
		if e := wantDecode(t, s, []byte{level, 1, 1, 'a', 1, 0}); (e == api.OK) != (level == 1) {
			t.Errorf("one entry, of level %d: %d", level, e)
		}
		if e := wantDecode(t, s, []byte{level, 2, 1, 0, 2, 0, 1, 'a', 0, 0}); (e == api.OK) != (level >= 2) {
			t.Errorf("two kids, of level %d: %d", level, e)
		}
	}
}

// P16.3: as many messages as two bytes can count, one more, and fewer or more than are told.
func TestManyMessages(t *testing.T) {
	s := exampleSchema()
	many := api.Node{Level: 2, Kids: []int{1, 2}, Pivots: []string{"b"}, Msgs: slices.Repeat(messagesOf(s, "a-"), 65536)}
	if b, e := node.Encode(s, many); e != api.ErrNode || len(b) != 0 {
		t.Errorf("65536 messages: %d bytes, %d", len(b), e)
	}
	most := many
	most.Msgs = many.Msgs[:65535]
	b, e := node.Encode(s, most)
	if want := bookBytes(s, most); e != api.OK || !bytes.Equal(b, want) {
		t.Fatalf("65535 messages: %d bytes, %d, want %d bytes", len(b), e, len(want))
	}
	if got, e := node.Decode(s, b); e != api.OK || !slices.EqualFunc(got.Msgs, most.Msgs, drill.SameMessage) {
		t.Errorf("65535 messages come back as %d, %d", len(got.Msgs), e)
	}
	for _, b := range [][]byte{b[:len(b)-4], append(bytes.Clone(b), b[len(b)-4:]...), append(bytes.Clone(b), 0)} {
		if got, e := node.Decode(s, b); e != api.ErrNode || !sameNode(got, api.Node{}) {
			t.Errorf("a message more or less than is told: %d", e)
		}
	}
	if e := node.Check(s, api.Config{Fanout: 4, Leaf: 2, Buffer: 65535 * 4}, most); e != api.OK {
		t.Errorf("Check of 65535 messages = %d", e)
	}
	if e := node.Check(s, api.Config{Fanout: 4, Leaf: 2, Buffer: 65535*4 - 1}, most); e != api.ErrNode {
		t.Errorf("Check of 65535 messages = %d", e)
	}
	if e := node.Check(s, api.Config{Fanout: 4, Leaf: 2, Buffer: 1 << 30}, many); e != api.ErrNode {
		t.Errorf("Check of 65536 messages = %d", e)
	}
}

// R1: any number of bytes.
func TestDecodeOfManyBytes(t *testing.T) {
	s := exampleSchema()
	for _, head := range []string{"\x01\x00", "\x01\x02\x01\x61\x01\x02\x02\x62\x63\x01\x01", "\x02\x02\x05\x00\x2c\x01\x01\x6d\x00\x00", "\x02\x02\x05\x00\x2c\x01\x01\x6d\xff\xff", "\x01\xff", "\xff\xff", "\x02\x40"} {
		for _, c := range []byte{0, 1, 2, 3, 255} {
			b := bytes.Repeat([]byte{c}, 1<<22)
			copy(b, head)
			if got, e := node.Decode(s, b); e != api.ErrNode || !sameNode(got, api.Node{}) {
				t.Errorf("Decode(% x and many times %d) = %s, %d", head, c, shown(s, got), e)
			}
		}
	}
}
