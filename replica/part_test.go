package replica_test

import (
	"bytes"
	"slices"
	"strings"
	"testing"

	"arbor/api"
	"arbor/drill"
)

// P27.6: which bytes are a part for a schema. A follower that is further on passes over all that are, and does nothing.

// judge: a follower that passes over parts, and how many were right and wrong.
type judge struct {
	*tail
	right, wrong int
}

func newJudge(t *testing.T, s api.Schema) *judge {
	t.Helper()
	return &judge{tail: newTail(t, s, exampleMeasures, 20, 1<<63)}
}

// looks: is it told what the book says of some bytes?
func (j *judge) looks(b []byte) {
	j.t.Helper()
	_, _, is := bookCall(b, j.Schema)
	want := api.ErrWire
	if is {
		want = api.OK
		j.right++
	} else {
		j.wrong++
	}
	if e := j.f.Feed(b); e != want {
		j.t.Fatalf("Feed(%x) = %d, want %d", b[:min(len(b), 100)], e, want)
	}
}

func (j *judge) wants(right, wrong int) {
	j.t.Helper()
	if j.right < right || j.wrong < wrong {
		j.t.Errorf("%d were parts, %d were none", j.right, j.wrong)
	}
	j.isLikeTwin("all that")
}

// body: as a frame of just as many bytes as it needs, whose sum is right.
func (j *judge) body(body []byte) {
	j.t.Helper()
	j.looks(bookFrame('R', 7, body, len(body)+15))
}

func TestEveryShortBody(t *testing.T) {
	for text, bytes := range map[string]string{"n:int": "\x00\x01\x02\x03\x80", "on:bool?": "\x00\x01\x02\x03\x08", "on:bool": "\x00\x01\x02\x03\xff"} {
		j := newJudge(t, drill.SchemaOf(text))
		for length := range 7 {
			drill.Scripts([]byte(bytes), length, j.body)
		}
		j.wants(50, 10000)
	}
}

// Lengths that reach beyond the end, and bodies with something behind the last change.
func TestBodiesOfLists(t *testing.T) {
	j := newJudge(t, drill.SchemaOf("n:int"))
	pieces := []string{"\x02\x00", "\x02\x01a", "\x01\x01a\x01\x0a", "\x01\x01a\x02\x80\x01", "\x01\x01a\x02\x80\x00", "\x03\x01a\x00\x00", "\x03\x01a\x03\x00new", "\x03\x01a\x03\x01new", "\x00\x01a", "\x04\x01a", "\x02\xffa"}
	for length := range 4 {
		drill.Scripts(pieces, length, func(list []string) {
			for count := range 6 {
				j.body([]byte(string(rune(count)) + strings.Join(list, "")))
			}
		})
	}
	for _, count := range []int{0, 1, 7, 8, 9, 10, 255} {
		for many := range 12 {
			for _, piece := range pieces {
				j.body(append([]byte{byte(count)}, strings.Repeat(piece, many)...))
			}
		}
	}
	j.wants(250, 9000)
}

// Keys and sources of any length are none of its business.
func TestLongKeysAndSources(t *testing.T) {
	j := newJudge(t, drill.SchemaOf("n:int"))
	for _, key := range []int{0, 1, 16, 17, 254, 255} {
		for _, src := range []int{0, 1, 255, 256, 257, 511, 512, 6000, 8177 - 5 - key, 8178 - 5 - key} {
			c := api.Change{Kind: api.MUpsert, Key: strings.Repeat("\xff", key), Src: strings.Repeat("\x00", src)}
			if 5+key+src <= 8177 {
				j.looks(bookPart(j.Schema, 1, c))
			} else { // a frame that is too long for one
				j.looks(bookPart(j.Schema, 1, c)[:8192])
				j.looks(bookPart(j.Schema, 1, c))
			}
			if 5+2*(4+key+src) <= 8177 {
				b := bookPart(j.Schema, 1, c, c)
				j.looks(b)
				j.body(b[11 : len(b)-5])
			}
		}
	}
	j.wants(80, 30)
}

// Parts as they come, and what is one step away from them: in their bytes, and in a body whose sum is right.
func TestPartsAndWhatIsNear(t *testing.T) {
	numbers := drill.Numbers(921)
	for _, s := range drill.Schemas() {
		j, f := newJudge(t, s), drill.Fitting{Schema: s, Numbers: &numbers}
		for range 60 {
			part := bookPart(s, uint64(numbers.Below(1<<40)), someChanges(f, 100, 8)...)
			j.looks(part)
			for at := range part {
				for _, b := range numbers.Spoiled(part, at) {
					j.looks(b)
				}
			}
			body := part[11 : len(part)-4]
			for at := range body {
				for _, b := range numbers.Spoiled(body, at) {
					j.body(b)
				}
			}
		}
		j.wants(2000, 10000)
	}
}

// Bits that are turned, tails that are cut off, bytes behind it.
func TestDamagedParts(t *testing.T) {
	numbers := drill.Numbers(922)
	s := drill.Schemas()[0]
	j, f := newJudge(t, s), drill.Fitting{Schema: s, Numbers: &numbers}
	for range 12 {
		part := bookPart(s, 1+uint64(numbers.Below(50)), someChanges(f, 100, 8)...)
		for bit := range 8 * len(part) {
			for _, run := range numbers.Runs() {
				j.looks(drill.Turned(part, bit, run))
			}
		}
		for cut := range len(part) {
			j.looks(part[:cut])
			j.looks(part[cut+1:])
			j.looks(slices.Concat(part, part[:cut+1]))
			j.looks(slices.Concat(part, make([]byte, cut+1)))
		}
	}
	if j.right > 0 {
		t.Errorf("%d damaged parts were parts", j.right)
	}
}

// Frames of other kinds, with room, with any number, of any size.
func TestOtherFrames(t *testing.T) {
	j := newJudge(t, drill.SchemaOf("n:int"))
	body := []byte("\x01\x02\x01a")
	for kind := range 256 {
		j.looks(bookFrame(byte(kind), 7, body, 19))
	}
	for size := 19; size <= 8192; size += 1 + size/4 {
		j.looks(bookFrame('R', 7, body, size))
	}
	for bit := range 63 {
		j.looks(bookFrame('R', 1<<bit, body, 19))
		j.looks(bookFrame('R', 1<<bit-1, body, 19))
	}
	j.wants(127, 270)
	for _, size := range []int{0, 1, 14, 15, 8191, 8192, 8193, 1 << 20} {
		j.looks(make([]byte, size))
		j.looks(bytes.Repeat([]byte{'R'}, size))
	}
}

// A part for one schema is one for another if its records are.
func TestPartsOfOtherSchemas(t *testing.T) {
	numbers := drill.Numbers(923)
	texts := []string{"n:int", "m:int", "n:int,m:int", "n:int?", "on:bool", "on:bool?", "b:bytes", "on:bool,b:bytes", "n:int,on:bool"}
	judges := make([]*judge, len(texts))
	for i, text := range texts {
		judges[i] = newJudge(t, drill.SchemaOf(text))
	}
	right := 0
	for _, of := range judges {
		f := drill.Fitting{Schema: of.Schema, Numbers: &numbers}
		for range 200 {
			var cs []api.Change
			for range 1 + numbers.Below(3) {
				cs = append(cs, drill.Pick(&numbers, []api.Change{{Kind: api.MDelete, Key: "a"}, {Kind: api.MUpsert, Key: "b", Src: "x = 1"}, {Kind: api.MPut, Key: "c", Vals: f.Record()}, {Kind: api.MPut, Key: "d", Vals: f.Record()}}))
			}
			for _, j := range judges {
				was := j.right
				if j.looks(bookPart(of.Schema, 3, cs...)); j != of {
					right += j.right - was
				}
			}
		}
	}
	if right < 1000 {
		t.Errorf("%d were parts for another schema", right)
	}
}
