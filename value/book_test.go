package value_test

import (
	"math/big"
	"regexp"
	"slices"
	"strconv"
	"strings"
	"testing"
	"unicode/utf8"

	"arbor/api"
	"arbor/value"
)

// The book: what the chapter says, told in its own order and without haste.

var none = api.Value{}

func number(n int64) api.Value  { return api.Value{Kind: api.Int, N: n} }
func truth(n int64) api.Value   { return api.Value{Kind: api.Bool, N: n} }
func text(s string) api.Value   { return api.Value{Kind: api.Bytes, S: s} }
func letters(n int) string      { return strings.Repeat("x", n) }
func field(n string) api.Schema { return api.Schema{Fields: []api.Field{{Name: n, Type: api.Int}}} }

// of: the schema of types, one by one, with a letter each: i, b, s, and as capitals the optional ones.
func of(types string) api.Schema {
	var s api.Schema
	for i, c := range types {
		k := strings.IndexRune("ibsIBS", c)
		s.Fields = append(s.Fields, api.Field{Name: "f" + strconv.Itoa(i), Type: 1 + k%3, Optional: k >= 3})
	}
	return s
}

var bookName = regexp.MustCompile(`\A[A-Za-z_][A-Za-z0-9_]*\z`)

const bookKeywords = " and cat clear delete else false has here if len max min new not or pick true "

func bookHead(s api.Schema) int {
	o := 0
	for _, f := range s.Fields {
		if f.Optional {
			o++
		}
	}
	return (o + 7) / 8
}

func bookWidth(s api.Schema) int {
	w := bookHead(s)
	for _, f := range s.Fields {
		w += []int{0, 10, 1, 21}[f.Type]
	}
	return w
}

func bookSchema(s api.Schema) api.Errno {
	names := map[string]bool{}
	for _, f := range s.Fields {
		if !bookName.MatchString(f.Name) || len(f.Name) > 8 || strings.Contains(bookKeywords, " "+f.Name+" ") {
			return api.ErrSchema
		}
		if f.Type < 1 || f.Type > 3 {
			return api.ErrSchema
		}
		names[f.Name] = true
	}
	if len(s.Fields) == 0 || len(s.Fields) > 8 || len(names) < len(s.Fields) || bookWidth(s) > 64 {
		return api.ErrSchema
	}
	return api.OK
}

func bookFits(f api.Field, v api.Value) bool {
	switch v.Kind {
	case api.Int:
		return v.S == "" && f.Type == api.Int
	case api.Bool:
		return (v.N == 0 || v.N == 1) && v.S == "" && f.Type == api.Bool
	case api.Bytes:
		return v.N == 0 && len(v.S) <= 20 && f.Type == api.Bytes
	case api.None:
		return v.N == 0 && v.S == "" && f.Optional
	}
	return false
}

// bookInt: the turned number, group by group.
func bookInt(n int64) []byte {
	u := new(big.Int).Mul(big.NewInt(2), big.NewInt(n))
	if n < 0 {
		u.Neg(u).Sub(u, big.NewInt(1))
	}
	var b []byte
	for {
		group := new(big.Int)
		u.DivMod(u, big.NewInt(128), group)
		if u.Sign() == 0 {
			return append(b, byte(group.Int64()))
		}
		b = append(b, byte(group.Int64()+128))
	}
}

func bookValue(v api.Value) []byte {
	switch v.Kind {
	case api.Int:
		return bookInt(v.N)
	case api.Bool:
		return []byte{byte(v.N)}
	case api.Bytes:
		return []byte(string(rune(len(v.S))) + v.S)
	}
	return nil
}

func bookEncode(s api.Schema, r []api.Value) []byte {
	b := make([]byte, bookHead(s))
	j := 0
	for i, f := range s.Fields {
		if !f.Optional {
			continue
		}
		if r[i].Kind != api.None {
			b[j/8] += byte(1 << (j % 8))
		}
		j++
	}
	for _, v := range r {
		b = append(b, bookValue(v)...)
	}
	return b
}

// bookIntOf: the int whose bytes are just these.
func bookIntOf(b []byte) (api.Value, bool) {
	u := new(big.Int)
	for i := len(b) - 1; i >= 0; i-- {
		u.Mul(u, big.NewInt(128)).Add(u, big.NewInt(int64(b[i]%128)))
	}
	half := new(big.Int).Rsh(u, 1)
	if u.Bit(0) == 1 {
		half.Neg(half).Sub(half, big.NewInt(1))
	}
	if !half.IsInt64() || !slices.Equal(bookInt(half.Int64()), b) {
		return none, false
	}
	return number(half.Int64()), true
}

// bookValueOf: the value of a type whose bytes are just these.
func bookValueOf(t int, b []byte) (api.Value, bool) {
	switch {
	case t == api.Int:
		return bookIntOf(b)
	case t == api.Bool:
		return truth(int64(append(b, 9)[0])), len(b) == 1 && b[0] < 2
	}
	return text(string(b[min(1, len(b)):])), len(b) > 0 && len(b) < 22 && int(b[0]) == len(b)-1
}

// bookSplit: the values of the types, one behind the other, by trying every cut.
func bookSplit(types []int, b []byte) ([]api.Value, bool) {
	if len(types) == 0 {
		return nil, len(b) == 0
	}
	for cut := range len(b) + 1 {
		v, ok := bookValueOf(types[0], slices.Clone(b[:cut]))
		if !ok {
			continue
		}
		if vs, ok := bookSplit(types[1:], b[cut:]); ok {
			return append([]api.Value{v}, vs...), true
		}
	}
	return nil, false
}

// bookDecode: tries every choice of the fields that are present.
func bookDecode(s api.Schema, b []byte) ([]api.Value, bool) {
	for choice := range 1 << len(s.Fields) {
		var types []int
		r := value.Zero(s)
		for i, f := range s.Fields {
			if choice>>i&1 == 1 {
				types = append(types, f.Type)
				r[i].Kind = f.Type
			}
		}
		h := bookHead(s)
		if !slices.EqualFunc(s.Fields, r, bookFits) || len(b) < h || !slices.Equal(b[:h], bookEncode(s, r)[:h]) {
			continue
		}
		if vs, ok := bookSplit(types, b[h:]); ok && len(types) == present(r) {
			fill(r, vs)
			return r, true
		}
	}
	return nil, false
}

func present(r []api.Value) int {
	n := 0
	for _, v := range r {
		if v.Kind != api.None {
			n++
		}
	}
	return n
}

// fill: the values, one by one, where a field is present.
func fill(r, vs []api.Value) {
	for i := range r {
		if r[i].Kind != api.None {
			r[i], vs = vs[0], vs[1:]
		}
	}
}

const bookPiece = `(?:[ !#-\[\]-~]|[^\x00-\x7f]|\\["\\nt]|\\x[0-9a-fA-F][0-9a-fA-F])`

var (
	bookLiteral = regexp.MustCompile(`\A"` + bookPiece + `*"`)
	bookPieces  = regexp.MustCompile(bookPiece)
	bookInts    = regexp.MustCompile(`\A(?:0|-?[1-9][0-9]*)`)
	bookBools   = regexp.MustCompile(`\A(?:true|false)`)
	bookSchemas = regexp.MustCompile(`\A[A-Za-z0-9_]+:(?:int|bool|bytes)\??(?:,[A-Za-z0-9_]+:(?:int|bool|bytes)\??)*\z`)
)

func bookUnpiece(piece string) string {
	switch {
	case piece == `\n`:
		return "\n"
	case piece == `\t`:
		return "\t"
	case strings.HasPrefix(piece, `\x`):
		n, _ := strconv.ParseUint(piece[2:], 16, 8)
		return string([]byte{byte(n)})
	}
	return strings.TrimPrefix(piece, `\`)
}

func bookUnquote(text string) (string, int, api.Errno) {
	literal := bookLiteral.FindString(text)
	if literal == "" || !utf8.ValidString(literal) {
		return "", 0, api.ErrText
	}
	b := ""
	for _, piece := range bookPieces.FindAllString(literal[1:len(literal)-1], -1) {
		b += bookUnpiece(piece)
	}
	if len(b) > 20 {
		return "", 0, api.ErrText
	}
	return b, len(literal), api.OK
}

func bookParseSchema(text string) (api.Schema, api.Errno) {
	if !bookSchemas.MatchString(text) {
		return api.Schema{}, api.ErrText
	}
	var s api.Schema
	for piece := range strings.SplitSeq(text, ",") {
		name, word, _ := strings.Cut(piece, ":")
		t := slices.Index([]string{"", "int", "bool", "bytes"}, strings.TrimRight(word, "?"))
		s.Fields = append(s.Fields, api.Field{Name: name, Type: t, Optional: strings.HasSuffix(word, "?")})
	}
	if e := bookSchema(s); e != api.OK {
		return api.Schema{}, e
	}
	return s, api.OK
}

func bookParseValue(t int, text string) (v api.Value, rest string, ok bool) {
	switch t {
	case api.Int:
		digits := bookInts.FindString(text)
		n, ok := new(big.Int).SetString(digits, 10)
		if !ok || !n.IsInt64() {
			return none, "", false
		}
		return number(n.Int64()), text[len(digits):], true
	case api.Bool:
		word := bookBools.FindString(text)
		return truth(int64(strings.Count(word, "true"))), text[len(word):], word != ""
	}
	b, taken, e := bookUnquote(text)
	return api.Value{Kind: api.Bytes, S: b}, text[taken:], e == api.OK
}

// bookItems: the values of the chosen fields out of the text of their items.
func bookItems(s api.Schema, choice int, text string) ([]api.Value, bool) {
	r := value.Zero(s)
	ahead := "{"
	for i, f := range s.Fields {
		if choice>>i&1 == 0 {
			continue
		}
		if !strings.HasPrefix(text, ahead+f.Name+"=") {
			return nil, false
		}
		v, rest, ok := bookParseValue(f.Type, text[len(ahead+f.Name+"="):])
		if !ok {
			return nil, false
		}
		r[i], text, ahead = v, rest, ","
	}
	if choice == 0 {
		return r, text == "{}"
	}
	return r, text == "}"
}

// bookParse: tries every choice of the fields that stand in the text.
func bookParse(s api.Schema, text string) ([]api.Value, bool) {
	for choice := range 1 << len(s.Fields) {
		if r, ok := bookItems(s, choice, text); ok {
			return r, true
		}
	}
	return nil, false
}

// parsed: the schema of a text that is one.
func parsed(t *testing.T, text string) api.Schema {
	t.Helper()
	s, e := value.ParseSchema(text)
	if e != api.OK || len(s.Fields) == 0 {
		t.Fatalf("ParseSchema(%q) = %v, %d", text, s, e)
	}
	return s
}

// edges: values that fit a field, its edges among them.
func edges(f api.Field) []api.Value {
	var vs []api.Value
	switch f.Type {
	case api.Int:
		for _, n := range []int64{0, 1, -1, 63, 64, -64, -65, 8191, 8192, -8192, -8193, 1 << 40, 1<<63 - 1, -1 << 63} {
			vs = append(vs, number(n))
		}
	case api.Bool:
		vs = append(vs, truth(0), truth(1))
	default:
		vs = append(vs, text(""), text("a"), text("\x00"), text("\x01\x00"), text("é\"\\"), text(letters(20)))
	}
	if f.Optional {
		vs = append(vs, none)
	}
	return vs
}

// records: every record of the edges of its fields.
func records(s api.Schema, each func(r []api.Value)) {
	r := make([]api.Value, len(s.Fields))
	var next func(i int)
	next = func(i int) {
		if i == len(r) {
			each(r)
			return
		}
		for _, v := range edges(s.Fields[i]) {
			r[i] = v
			next(i + 1)
		}
	}
	next(0)
}
