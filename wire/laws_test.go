package wire_test

import (
	"bytes"
	"slices"
	"testing"

	"arbor/api"
	"arbor/drill"
	"arbor/wire"
)

// someParts: of requests and replies of all kinds.
func someParts(s api.Schema, numbers *drill.Numbers) (list [][]byte) {
	for _, r := range someRequests(s, numbers) {
		b, _ := wire.EncodeRequest(s, r)
		list = append(list, b)
	}
	for _, r := range someReplies(s, numbers) {
		b, _ := wire.EncodeReply(s, r)
		list = append(list, b)
	}
	return list
}

// Decode of Encode gives back, for requests and for replies, whatever fits the schema.
func TestDecodeOfEncode(t *testing.T) {
	numbers := drill.Numbers(701)
	for _, s := range schemas() {
		for range 100 {
			for _, r := range someRequests(s, &numbers) {
				b, _ := wire.EncodeRequest(s, r)
				if again, e := wire.DecodeRequest(s, b); e != api.OK || !sameRequest(again, r) {
					t.Fatalf("%s comes back as %s, %d", shownRequest(r), shownRequest(again), e)
				}
			}
			for _, r := range someReplies(s, &numbers) {
				b, _ := wire.EncodeReply(s, r)
				if again, e := wire.DecodeReply(s, b); e != api.OK || !sameReply(again, r) {
					t.Fatalf("%s comes back as %s, %d", shownReply(r), shownReply(again), e)
				}
			}
		}
	}
}

// The parts of several requests and replies, one behind the other, are cut into just these parts.
func TestPartsComeOutOfAStream(t *testing.T) {
	numbers := drill.Numbers(702)
	for _, s := range schemas() {
		for range 50 {
			list := someParts(s, &numbers)
			for i := range list {
				j := i + numbers.Below(len(list)-i)
				list[i], list[j] = list[j], list[i]
			}
			stream := slices.Concat(list...)
			splitter, at := wire.NewSplitter(), 0
			var got [][]byte
			for at < len(stream) {
				end := min(len(stream), at+numbers.Below(60))
				parts, e := splitter.Feed(stream[at:end])
				if e != api.OK {
					t.Fatalf("Feed = %d", e)
				}
				got, at = append(got, parts...), end
			}
			if !slices.EqualFunc(got, list, bytes.Equal) || splitter.Rest() != 0 {
				t.Fatalf("%d parts of %d", len(got), len(list))
			}
		}
	}
}

// wantNeither: bytes are no request and no reply.
func wantNeither(t *testing.T, s api.Schema, b []byte) {
	t.Helper()
	r, e := wire.DecodeRequest(s, b)
	q, f := wire.DecodeReply(s, b)
	if e != api.ErrWire || f != api.ErrWire || !sameRequest(r, api.Request{}) || !sameReply(q, api.Reply{}) {
		t.Fatalf("%x is told as %s, %d, and %s, %d", b, shownRequest(r), e, shownReply(q), f)
	}
}

// Wherever bits of one run of 32 are turned, and wherever a part is cut, and whatever stands behind it.
func TestSpoiledPartsAreTold(t *testing.T) {
	numbers := drill.Numbers(703)
	for _, s := range schemas()[:3] {
		for _, b := range someParts(s, &numbers) {
			for bit := range 8 * len(b) {
				for _, run := range numbers.Runs() {
					wantNeither(t, s, drill.Turned(b, bit, run))
				}
			}
			for end := range b {
				wantNeither(t, s, b[:end])
				wantNeither(t, s, b[end+1:])
				wantNeither(t, s, append(bytes.Clone(b), b[:end+1]...))
			}
		}
	}
}

// A part of a request is none of a reply, with the other's letter and a right sum too, unless its body is one of both.
func TestRequestsAreNoReplies(t *testing.T) {
	numbers := drill.Numbers(704)
	both := 0
	for _, s := range schemas() {
		for number, b := range someParts(s, &numbers) {
			request := number < len(someRequests(s, &numbers))
			if readsRequest(t, s, b) != request || readsReply(t, s, b) == request {
				t.Errorf("%x: of a request: %v", b, request)
			}
			for letter := range 256 {
				b[4] = byte(letter)
				if readsBoth(t, s, mended(b)) {
					both++
				}
			}
		}
	}
	if want := len(schemas()) * (15 + 9); both < want {
		t.Errorf("%d parts with a right letter, %d at least", both, want)
	}
}
