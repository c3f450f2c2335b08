package value_test

import (
	"strconv"
	"strings"
	"testing"

	"arbor/api"
	"arbor/drill"
	"arbor/value"
)

// bookByte: a byte as it stands in a literal.
func bookByte(c byte) string {
	switch {
	case c == '"':
		return `\"`
	case c == '\\':
		return `\\`
	case c >= 32 && c <= 126:
		return string(rune(c))
	}
	return `\x` + strconv.FormatInt(int64(c)/16, 16) + strconv.FormatInt(int64(c)%16, 16)
}

func bookQuote(b string) string {
	text := ""
	for i := range len(b) {
		text += bookByte(b[i])
	}
	return `"` + text + `"`
}

func bookPrint(v api.Value) string {
	switch v.Kind {
	case api.Int:
		return strconv.FormatInt(v.N, 10)
	case api.Bool:
		return []string{"false", "true"}[v.N]
	}
	return bookQuote(v.S)
}

// P6.10, P6.11, P6.12: every one and two bytes there and back, whatever stands behind.
func TestEveryTwoBytesQuoted(t *testing.T) {
	for c := range 1 << 16 {
		wantThereAndBack(t, string([]byte{byte(c >> 8)}))
		wantThereAndBack(t, string([]byte{byte(c >> 8), byte(c)}))
	}
	for _, b := range []string{"", letters(20), strings.Repeat("\xff", 20), strings.Repeat(`"`, 20), strings.Repeat(`\`, 20), "é€𐍈", "\x00\x1f\x20\x7e\x7f\x80"} {
		wantThereAndBack(t, b)
	}
}

func wantThereAndBack(t *testing.T, b string) {
	t.Helper()
	literal := value.Quote(b)
	if literal != bookQuote(b) {
		t.Fatalf("Quote(%q) = %s, want %s", b, literal, bookQuote(b))
	}
	for _, behind := range []string{"", `"`, "x", `\`, "\xff", "\n"} {
		if got, taken, e := value.Unquote(literal + behind); got != b || taken != len(literal) || e != api.OK {
			t.Fatalf("Unquote(%s) = %q, %d, %d", literal+behind, got, taken, e)
		}
	}
}

// P6.10: bytes of any number; Unquote takes of them MaxBytes.
func TestQuoteOfManyBytes(t *testing.T) {
	for _, many := range []int{0, 1, 19, 20, 21, 22, 255, 256, 1000} {
		for _, c := range []byte{'a', '"', '\\', 0, 10, 127, 128, 255} {
			b := strings.Repeat(string([]byte{c}), many)
			literal := value.Quote(b)
			if literal != bookQuote(b) {
				t.Fatalf("Quote of %d bytes %d = %s", many, c, literal)
			}
			got, taken, e := value.Unquote(literal)
			if many <= 20 && (got != b || taken != len(literal) || e != api.OK) || many > 20 && (got != "" || taken != 0 || e != api.ErrText) {
				t.Fatalf("Unquote(%.40s) = %q, %d, %d", literal, got, taken, e)
			}
		}
	}
	if got := value.Quote(strings.Repeat("\x00a", 1<<18)); got != `"`+strings.Repeat(`\x00a`, 1<<18)+`"` {
		t.Error("Quote of very many bytes is another literal")
	}
}

func wantUnquote(t *testing.T, text string) {
	t.Helper()
	want, k, e := bookUnquote(text)
	if got, taken, errno := value.Unquote(text); got != want || taken != k || errno != e {
		t.Fatalf("Unquote(%q) = %q, %d, %d, want %q, %d, %d", text, got, taken, errno, want, k, e)
	}
}

// P6.11: every short text out of pieces of literals, whole and broken ones.
func TestUnquoteOfEveryShortText(t *testing.T) {
	pieces := []string{`"`, `\`, "x", "n", "t", "4", "f", "G", "é", "\xc3", "\xa9", "\x7f", " ", "\n"}
	for length := range 5 {
		drill.Scripts(pieces, length, func(script []string) {
			inner := strings.Join(script, "")
			wantUnquote(t, inner)
			wantUnquote(t, `"`+inner)
			wantUnquote(t, `"`+inner+`"`)
		})
	}
}

// P6.11: every byte by itself, behind a backslash, and as either digit.
func TestUnquoteOfEveryByte(t *testing.T) {
	for c := range 256 {
		one := string([]byte{byte(c)})
		for _, text := range []string{one, `"` + one, `"` + one + `"`, `"a` + one + `b"`, `"\` + one, `"\` + one + `"`, `"\` + one + `41"`, `"\x` + one + `0"`, `"\x0` + one + `"`, `"\x` + one + `"`, `"\x` + one, `"\x4` + one} {
			wantUnquote(t, text)
		}
	}
}

// P6.11: runes at the edges of UTF-8, whole, cut off, and forms that are none.
func TestUnquoteOfRunes(t *testing.T) {
	for _, r := range []rune{0x80, 0x9f, 0xff, 0x7ff, 0x800, 0xfff, 0xd7ff, 0xe000, 0xfffd, 0xffff, 0x10000, 0x10ffff} {
		bytes := string(r)
		if b, taken, e := value.Unquote(`"` + bytes + `"`); b != bytes || taken != len(bytes)+2 || e != api.OK {
			t.Errorf("Unquote of the rune %x = %q, %d, %d", r, b, taken, e)
		}
		for cut := 1; cut < len(bytes); cut++ {
			wantUnquote(t, `"`+bytes[:cut]+`"`)
			wantUnquote(t, `"`+bytes[cut:]+`"`)
			if b, taken, e := value.Unquote(`"` + bytes[:cut] + `"`); b != "" || taken != 0 || e != api.ErrText {
				t.Errorf("Unquote of %d bytes of the rune %x = %q, %d, %d", cut, r, b, taken, e)
			}
		}
	}
	for _, b := range []string{"\xed\xa0\x80", "\xed\xbf\xbf", "\xc0\x80", "\xc1\xbf", "\xe0\x80\x80", "\xe0\x9f\xbf", "\xf0\x80\x80\x80", "\xf0\x8f\xbf\xbf", "\xf4\x90\x80\x80", "\xf8\x88\x80\x80\x80", "\xff", "\xfe", "\x80", "\xbf"} {
		if got, taken, e := value.Unquote(`"` + b + `"`); got != "" || taken != 0 || e != api.ErrText {
			t.Errorf("Unquote of % x = %q, %d, %d", b, got, taken, e)
		}
	}
}

// P6.11: the value's bytes are counted, not the text's.
func TestUnquoteOfLongValues(t *testing.T) {
	for _, piece := range []string{"x", "é", "€", "𐍈", `\n`, `\x41`, `\"`, `\\`} {
		for many := range 24 {
			for _, ahead := range []string{"", "x", `\xff`, "é"} {
				wantUnquote(t, `"`+ahead+strings.Repeat(piece, many)+`"`)
				wantUnquote(t, `"`+ahead+strings.Repeat(piece, many))
			}
		}
	}
	for _, text := range []string{letters(1 << 22), `"` + letters(1<<22), strings.Repeat(`\`, 1<<22), `"` + strings.Repeat("\xff", 1<<22)} {
		if b, taken, e := value.Unquote(text); b != "" || taken != 0 || e != api.ErrText {
			t.Errorf("Unquote(%.10q..) = %q, %d, %d", text, b, taken, e)
		}
	}
	if b, taken, e := value.Unquote(`"ab"` + strings.Repeat("\xff", 1<<22)); b != "ab" || taken != 4 || e != api.OK {
		t.Errorf("Unquote of a literal with much behind it = %q, %d, %d", b, taken, e)
	}
}
