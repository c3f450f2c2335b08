package nodepage_test

import (
	"testing"

	"arbor/api"
	"arbor/drill"
	"arbor/nodepage"
)

// A frame is a node's page if its kind and its body are one node's.
func TestPages(t *testing.T) {
	s := drill.SchemaOf("n:int")
	leaf, inner := "\x01\x01\x01a\x01\x02", "\x02\x02\x05\x00\x2c\x01\x01m\x00\x00"
	for _, x := range []struct {
		kind  byte
		body  string
		level int
	}{
		{'L', leaf, 1}, {'I', inner, 2}, {'L', "\x01\x00", 1},
		{'I', leaf, 0}, {'L', inner, 0}, {'C', leaf, 0}, {'C', inner, 0}, {0, leaf, 0},
		{'L', "", 0}, {'I', "", 0}, {'L', leaf + "\x00", 0}, {'L', leaf[:5], 0}, {'I', inner[:9], 0}, {'I', "\x01" + inner[1:], 0}, {'L', "\x00\x00", 0},
	} {
		n, is := nodepage.Of(s, api.Frame{Kind: x.kind, Gen: 9, Body: []byte(x.body)})
		if is != (x.level > 0) || n.Level != x.level {
			t.Errorf("%c %q: %+v, %v", x.kind, x.body, n, is)
		}
		if is && nodepage.Kind(n) != x.kind {
			t.Errorf("%c %q: its page is of kind %c", x.kind, x.body, nodepage.Kind(n))
		}
	}
	if _, is := nodepage.Of(api.Schema{}, api.Frame{Kind: 'L', Body: []byte(leaf)}); is {
		t.Error("a page of no schema is taken")
	}
}
