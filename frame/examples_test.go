package frame_test

import (
	"bytes"
	"encoding/hex"
	"strings"
	"testing"

	"arbor/api"
	"arbor/frame"
)

// unhex: bytes written as the chapter writes them.
func unhex(t *testing.T, s string) []byte {
	t.Helper()
	b, err := hex.DecodeString(strings.ReplaceAll(s, " ", ""))
	if err != nil {
		t.Fatal(err)
	}
	return b
}

// The chapter's examples: sums and rooms.
func TestExampleNumbers(t *testing.T) {
	for text, want := range map[string]uint32{
		"": 0, "a": 0xE8B7BE43, "abc": 0x352441C2, "\x00": 0xD202EF8D, "\xff\xff\xff\xff": 0xFFFFFFFF, "123456789": 0xCBF43926,
	} {
		if got := frame.Sum([]byte(text)); got != want {
			t.Errorf("Sum(%q) = %08x, want %08x", text, got, want)
		}
	}
	if got := frame.Extend(0xE8B7BE43, []byte("bc")); got != 0x352441C2 {
		t.Errorf("Extend(0xE8B7BE43, bc) = %08x", got)
	}
	for size, want := range map[int]int{15: 0, 16: 1, 14: 0, 8192: 8177, 8193: 0} {
		if got := frame.Room(size); got != want {
			t.Errorf("Room(%d) = %d, want %d", size, got, want)
		}
	}
}

// The chapter's examples: frames.
func TestExampleFrames(t *testing.T) {
	ab := api.Frame{Kind: 1, Gen: 258, Body: []byte("ab")}
	twenty := unhex(t, "01 02 00 02 01 00 00 00 00 00 00 61 62 00 00 00 04 F3 D1 24")
	if got := mustSeal(t, ab, 20); !bytes.Equal(got, twenty) {
		t.Errorf("Seal = % X, want % X", got, twenty)
	}
	wantOpen(t, twenty, ab)
	if b, e := frame.Seal(api.Frame{Kind: 83, Gen: 1, Body: []byte("abc")}, 17); e != api.ErrLong || len(b) != 0 {
		t.Errorf("Seal of three bytes, 17 = % X, %d", b, e)
	}
	if b, e := frame.Seal(ab, 14); e != api.ErrArg || len(b) != 0 {
		t.Errorf("Seal of anything, 14 = % X, %d", b, e)
	}
	filled := bytes.Clone(twenty)
	filled[15] = 1
	wantDamaged(t, resealed(filled))
	wantDamaged(t, unhex(t, "01 06 00 02 01 00 00 00 00 00 00 61 62 00 00 00 67 96 AD AE"))
	if got, want := mustSeal(t, api.Frame{}, 15), unhex(t, "00 00 00 00 00 00 00 00 00 00 00 EC B1 87 6B"); !bytes.Equal(got, want) {
		t.Errorf("Seal = % X, want % X", got, want)
	}
	wantDamaged(t, make([]byte, 20))
}
