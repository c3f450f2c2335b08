package shell

import (
	"strconv"
	"strings"

	"arbor/api"
	"arbor/value"
)

// maxDigits: of a number in a line.
const maxDigits = 8

// line: what is left of a line behind the arguments that were read. It is wrong from the first one on that is not of its form; what is read behind that means nothing.
type line struct {
	left  string
	wrong bool
}

// take: the next argument: so many bytes behind the blank as measure says; below 0: none of that form begins there.
func (l *line) take(measure func(text string) int) string {
	text, ok := strings.CutPrefix(l.left, " ")
	n := measure(text)
	if !ok || n < 0 {
		l.wrong = true
		return ""
	}
	l.left = text[n:]
	return text[:n]
}

// rest: all that is left.
func (l *line) rest() string {
	return l.take(func(text string) int { return len(text) })
}

// number: an N.
func (l *line) number() int {
	// The text is a number of few digits, or none and the line is wrong.
	n, _ := strconv.Atoi(l.take(wordIf(isNumber)))
	return n
}

// bits: of a crash, - for none.
func (l *line) bits() []bool {
	text := l.take(wordIf(isBits))
	if text == "-" {
		return nil
	}
	keep := make([]bool, len(text))
	for i := range keep {
		keep[i] = text[i] == '1'
	}
	return keep
}

// key: written as itself or as a literal.
func (l *line) key() string {
	text := l.take(keyLength)
	if isPlainKey(text) {
		return text
	}
	key, _, _ := value.Unquote(text)
	return key
}

// row: none, or a record's text.
func (l *line) row() string {
	return l.take(rowLength)
}

// wordIf: the length of what goes to the next blank, if it is so.
func wordIf(so func(word string) bool) func(text string) int {
	return func(text string) int {
		word, _, _ := strings.Cut(text, " ")
		if !so(word) {
			return -1
		}
		return len(word)
	}
}

func isNumber(word string) bool {
	digits := strings.TrimPrefix(word, "-")
	if digits == "0" {
		return true
	}
	return digits != "" && digits[0] != '0' && len(digits) <= maxDigits && hasOnly(digits, isDigit)
}

func isBits(word string) bool {
	return word == "-" || word != "" && hasOnly(word, func(b byte) bool { return b == '0' || b == '1' })
}

// isPlainKey: may the key stand for itself?
func isPlainKey(key string) bool {
	return key != "" && hasOnly(key, isKeyByte)
}

func hasOnly(text string, so func(b byte) bool) bool {
	for i := range len(text) {
		if !so(text[i]) {
			return false
		}
	}
	return true
}

func isDigit(b byte) bool {
	return '0' <= b && b <= '9'
}

func isKeyByte(b byte) bool {
	switch {
	case 'a' <= b && b <= 'z', 'A' <= b && b <= 'Z', isDigit(b):
		return true
	}
	return b == '_' || b == '.' || b == '-'
}

// keyLength: of the key at the head of the text.
func keyLength(text string) int {
	if !strings.HasPrefix(text, `"`) {
		return wordIf(isPlainKey)(text)
	}
	_, n, e := value.Unquote(text)
	if e != api.OK {
		return -1
	}
	return n
}

// rowLength: of the row at the head of the text. What stands in it is looked at only as far as its end asks for.
func rowLength(text string) int {
	if !strings.HasPrefix(text, "{") {
		return wordIf(func(word string) bool { return word == noRow })(text)
	}
	within := false
	for i := 0; i < len(text); i++ {
		switch {
		case text[i] == '"':
			within = !within
		case within && text[i] == '\\':
			i++
		case !within && text[i] == '}':
			return i + 1
		}
	}
	return -1
}
