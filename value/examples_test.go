package value_test

import (
	"bytes"
	"math"
	"slices"
	"strings"
	"testing"

	"arbor/api"
	"arbor/value"
)

func TestExample1(t *testing.T) {
	for text, want := range map[string]api.Errno{
		"n:int,n:bool":                    api.ErrSchema,
		"if:int":                          api.ErrSchema,
		"9a:int":                          api.ErrSchema,
		"abcdefghi:int":                   api.ErrSchema,
		"a:bytes,b:bytes,c:bytes,d:bytes": api.ErrSchema,
		"a:bytes?,b:bytes?,c:bytes?":      api.OK,
		"a:int,b:int,c:int,d:int,e:int,f:int,g:bool,h:bool":               api.OK,
		"a:int,b:int,c:int,d:int?,e:int,f:int,g:bool,h:bool":              api.OK,
		"a:bool,b:bool,c:bool,d:bool,e:bool,f:bool,g:bool,h:bool":         api.OK,
		"a:bool,b:bool,c:bool,d:bool,e:bool,f:bool,g:bool,h:bool,i1:bool": api.ErrSchema,
	} {
		var s api.Schema
		for piece := range strings.SplitSeq(text, ",") {
			name, word, _ := strings.Cut(piece, ":")
			k := slices.Index([]string{"int", "bool", "bytes"}, strings.TrimSuffix(word, "?"))
			s.Fields = append(s.Fields, api.Field{Name: name, Type: 1 + k, Optional: strings.HasSuffix(word, "?")})
		}
		wantSchema(t, s, want)
	}
	wantSchema(t, api.Schema{}, api.ErrSchema)
	wantSchema(t, api.Schema{Fields: []api.Field{{Name: "n", Type: 0}}}, api.ErrSchema)
	wantSchema(t, api.Schema{Fields: []api.Field{{Name: "n", Type: 4}}}, api.ErrSchema)
}

func TestExample2(t *testing.T) {
	s := parsed(t, example)
	if r := value.Zero(s); !slices.Equal(r, []api.Value{number(0), truth(0), none}) {
		t.Errorf("Zero = %v", r)
	}
	for _, c := range []struct {
		vs, want []api.Value
		e        api.Errno
	}{
		{nil, []api.Value{number(0), truth(0), none}, api.OK},
		{[]api.Value{number(5)}, []api.Value{number(5), truth(0), none}, api.OK},
		{[]api.Value{truth(1)}, nil, api.ErrValue},
		{[]api.Value{number(0), truth(0), none, none}, nil, api.ErrValue},
	} {
		if r, e := value.Make(s, c.vs...); !slices.Equal(r, c.want) || e != c.e {
			t.Errorf("Make(%v) = %v, %d, want %v, %d", c.vs, r, e, c.want, c.e)
		}
	}
}

func TestExamples3And6(t *testing.T) {
	s := parsed(t, example)
	for _, c := range []struct {
		tag   api.Value
		bytes string
		text  string
	}{
		{none, "\x00\x0a\x01", `{n=5,on=true}`},
		{text("ab"), "\x01\x0a\x01\x02\x61\x62", `{n=5,on=true,tag="ab"}`},
		{text(""), "\x01\x0a\x01\x00", `{n=5,on=true,tag=""}`},
	} {
		r := []api.Value{number(5), truth(1), c.tag}
		if b, e := value.Encode(s, r); string(b) != c.bytes || e != api.OK {
			t.Errorf("Encode(%v) = % x, %d", r, b, e)
		}
		if text, e := value.Print(s, r); text != c.text || e != api.OK {
			t.Errorf("Print(%v) = %s, %d", r, text, e)
		}
	}
}

func TestExample4(t *testing.T) {
	for n, want := range map[int64]string{
		0: "\x00", -1: "\x01", 63: "\x7e", 64: "\x80\x01", -64: "\x7f", -65: "\x81\x01",
		math.MaxInt64: "\xfe\xff\xff\xff\xff\xff\xff\xff\xff\x01",
		math.MinInt64: "\xff\xff\xff\xff\xff\xff\xff\xff\xff\x01",
	} {
		if b, e := value.Encode(of("i"), []api.Value{number(n)}); string(b) != want || e != api.OK {
			t.Errorf("Encode(%d) = % x, %d", n, b, e)
		}
	}
}

func TestExample5(t *testing.T) {
	s := parsed(t, example)
	long := append([]byte{1, 0x0a, 1, 0x15}, bytes.Repeat([]byte{'x'}, 21)...)
	for _, b := range [][]byte{{2, 0x0a, 1}, {0, 0x0a, 2}, {0, 0x0a}, {0, 0x0a, 1, 0}, {0, 0x8a, 0, 1}, long, {}, nil} {
		if r, e := value.Decode(s, b); len(r) != 0 || e != api.ErrBytes {
			t.Errorf("Decode(% x) = %v, %d", b, r, e)
		}
	}
}

func TestExample7(t *testing.T) {
	s := parsed(t, example)
	for text, n := range map[string]int64{"{}": 0, "{n=-7}": -7, "{n=-9223372036854775808}": math.MinInt64} {
		if r, e := value.Parse(s, text); !slices.Equal(r, []api.Value{number(n), truth(0), none}) || e != api.OK {
			t.Errorf("Parse(%s) = %v, %d", text, r, e)
		}
	}
	for _, text := range []string{`{tag="\x41é",n=1}`, "{n=+1}", "{n=01}", "{n=-0}", "{n=1,n=1}", "{n=1,}", "{on=1}", "{n=9223372036854775808}", "{ n=1}", "{n=1} ", "{m=1}"} {
		if r, e := value.Parse(s, text); len(r) != 0 || e != api.ErrText {
			t.Errorf("Parse(%s) = %v, %d", text, r, e)
		}
	}
}

func TestExample8(t *testing.T) {
	if text, e := value.PrintSchema(parsed(t, example)); text != example || e != api.OK {
		t.Errorf("PrintSchema = %q, %d", text, e)
	}
	for text, want := range map[string]api.Errno{
		"": api.ErrText, "n": api.ErrText, "n:int,": api.ErrText, "n:Int": api.ErrText, "n:int??": api.ErrText, "n :int": api.ErrText, ":int": api.ErrText,
		"n:int,n:int": api.ErrSchema, "9:int": api.ErrSchema, "not:int": api.ErrSchema, "n:int": api.OK,
	} {
		if _, e := value.ParseSchema(text); e != want {
			t.Errorf("ParseSchema(%q) = %d, want %d", text, e, want)
		}
	}
}

func TestExample9(t *testing.T) {
	const literal = `"a\"\\\x0a\xff "`
	if text := value.Quote("a\"\\\n\xff "); text != literal {
		t.Errorf("Quote = %s", text)
	}
	for _, c := range []struct {
		text, b string
		taken   int
		e       api.Errno
	}{
		{literal, "a\"\\\n\xff ", 16, api.OK},
		{"\"\xc3\xa9\"x", "\xc3\xa9", 4, api.OK},
		{`"a`, "", 0, api.ErrText},
		{`'a'`, "", 0, api.ErrText},
		{`"\q"`, "", 0, api.ErrText},
		{`"\x4"`, "", 0, api.ErrText},
		{"\"\xff\"", "", 0, api.ErrText},
		{"\"\n\"", "", 0, api.ErrText},
		{`"` + letters(20) + `"`, letters(20), 22, api.OK},
		{`"` + letters(21) + `"`, "", 0, api.ErrText},
		{`""`, "", 2, api.OK},
	} {
		if b, taken, e := value.Unquote(c.text); b != c.b || taken != c.taken || e != c.e {
			t.Errorf("Unquote(%s) = %q, %d, %d, want %q, %d, %d", c.text, b, taken, e, c.b, c.taken, c.e)
		}
	}
}
