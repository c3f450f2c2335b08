package value

import (
	"strconv"
	"strings"
	"unicode/utf8"

	"arbor/api"
)

const hexDigits = "0123456789abcdef"

// Quote: bytes as a literal.
func Quote(b string) string {
	var text strings.Builder
	text.Grow(len(b) + 2)
	text.WriteByte('"')
	for i := range len(b) {
		switch c := b[i]; {
		case c == '"' || c == '\\':
			text.WriteByte('\\')
			text.WriteByte(c)
		case plain(c):
			text.WriteByte(c)
		default:
			text.WriteString(`\x`)
			text.WriteByte(hexDigits[c>>4])
			text.WriteByte(hexDigits[c&15])
		}
	}
	text.WriteByte('"')
	return text.String()
}

// Unquote: the bytes that a literal at the head of a text means, and how many bytes of the text it takes.
func Unquote(text string) (string, int, api.Errno) {
	if !strings.HasPrefix(text, `"`) {
		return "", 0, api.ErrText
	}
	b := make([]byte, 0, api.MaxBytes)
	at := 1
	for at < len(text) && text[at] != '"' {
		piece, taken := unquotePiece(text[at:])
		// A text without an end is given up as soon as its value is too long.
		if taken == 0 || len(b)+len(piece) > api.MaxBytes {
			return "", 0, api.ErrText
		}
		b = append(b, piece...)
		at += taken
	}
	if at == len(text) {
		return "", 0, api.ErrText
	}
	return string(b), at + 1, api.OK
}

// unquotePiece: the bytes that the piece at the head of a text means, and how many bytes it takes: 0, if none begins so.
func unquotePiece(text string) (piece string, taken int) {
	switch c := text[0]; {
	case c == '\\':
		return unquoteEscape(text)
	case plain(c):
		return text[:1], 1
	}
	// A size of 1 is a byte that begins no rune, or one below 128 that is not plain: neither may stand here.
	if _, size := utf8.DecodeRuneInString(text); size > 1 {
		return text[:size], size
	}
	return "", 0
}

func unquoteEscape(text string) (piece string, taken int) {
	if len(text) < 2 {
		return "", 0
	}
	switch text[1] {
	case '"', '\\':
		return text[1:2], 2
	case 'n':
		return "\n", 2
	case 't':
		return "\t", 2
	case 'x':
		return unquoteHex(text)
	}
	return "", 0
}

func unquoteHex(text string) (piece string, taken int) {
	if len(text) < 4 {
		return "", 0
	}
	n, err := strconv.ParseUint(text[2:4], 16, 8)
	if err != nil {
		return "", 0
	}
	return string([]byte{byte(n)}), 4
}

// plain: may the byte stand in a literal by itself? (A quote and a backslash have been dealt with ahead of the question.)
func plain(c byte) bool {
	return 32 <= c && c <= 126
}
