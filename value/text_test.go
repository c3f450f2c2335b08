package value_test

import (
	"slices"
	"strings"
	"testing"

	"arbor/api"
	"arbor/drill"
	"arbor/value"
)

func wantParseSchema(t *testing.T, text string) {
	t.Helper()
	want, e := bookParseSchema(text)
	if got, errno := value.ParseSchema(text); !slices.Equal(got.Fields, want.Fields) || errno != e {
		t.Fatalf("ParseSchema(%q) = %v, %d, want %v, %d", text, got, errno, want, e)
	}
}

// P6.7: every short text out of pieces of schemas.
func TestParseSchemaOfEveryShortText(t *testing.T) {
	pieces := []string{"n", "m", "9", "if", ":", "int", "bytes", "?", ",", " "}
	for length := range 6 {
		drill.Scripts(pieces, length, func(script []string) { wantParseSchema(t, strings.Join(script, "")) })
	}
	fields := []string{"a:int", "b:bool?", "c:bytes", "a:bytes?", "_:int?", "", ":int", "9a:int", "or:bool", "toolongaa:int", "d:", "e:Int", "f:int ", "g:nt", "h"}
	for length := range 5 {
		drill.Scripts(fields, length, func(script []string) { wantParseSchema(t, strings.Join(script, ",")) })
	}
}

// P6.7: the byte at each place of a text is each byte in turn.
func TestParseSchemaOfTextsNearOne(t *testing.T) {
	for place := range len(example) + 1 {
		for c := range 256 {
			one := string([]byte{byte(c)})
			wantParseSchema(t, example[:place]+one+example[place:])
			wantParseSchema(t, example[:place]+one+example[min(place+1, len(example)):])
		}
		wantParseSchema(t, example[:place])
		wantParseSchema(t, example[place:])
	}
}

// P6.7: the form comes ahead of what the schema may be, to the text's end.
func TestParseSchemaOfVeryManyFields(t *testing.T) {
	for _, many := range []int{7, 8, 9, 10, 100, 1 << 16} {
		pieces := strings.Split(strings.Repeat("b:bool,", many)[:7*many-1], ",")
		for i := range min(many, 8) {
			pieces[i] = "f" + string(rune('a'+i)) + ":bool"
		}
		text := strings.Join(pieces, ",")
		want := api.OK
		if many > 8 {
			want = api.ErrSchema
		}
		if s, e := value.ParseSchema(text); e != want || (e == api.OK) != (len(s.Fields) == many) || e != api.OK && len(s.Fields) != 0 {
			t.Errorf("ParseSchema of %d fields = %v, %d", many, s, e)
		}
		for _, tail := range []string{",", ",b", ",:int", " ", "?,", ",b:bool??"} {
			if s, e := value.ParseSchema(text + tail); e != api.ErrText || len(s.Fields) != 0 {
				t.Errorf("ParseSchema of %d fields and %q = %v, %d", many, tail, s, e)
			}
		}
	}
	for text, want := range map[string]api.Errno{letters(1 << 22): api.ErrText, strings.Repeat(",", 1<<22): api.ErrText, letters(1<<22) + ":int": api.ErrSchema, "n:" + letters(1<<22): api.ErrText, "n:int" + strings.Repeat("?", 1<<22): api.ErrText} {
		if s, e := value.ParseSchema(text); len(s.Fields) != 0 || e != want {
			t.Errorf("ParseSchema(%.10q..) = %v, %d", text, s, e)
		}
	}
}

// P6.7, P6.12: there and back, of every schema of few fields.
func TestSchemasAsTexts(t *testing.T) {
	words := map[rune]string{'i': "int", 'b': "bool", 's': "bytes", 'I': "int?", 'B': "bool?", 'S': "bytes?"}
	for length := 1; length <= 4; length++ {
		drill.Scripts([]rune("ibsIBS"), length, func(types []rune) {
			s := of(string(types))
			if bookSchema(s) != api.OK {
				return
			}
			var want []string
			for i, c := range types {
				want = append(want, s.Fields[i].Name+":"+words[c])
			}
			text, e := value.PrintSchema(s)
			if text != strings.Join(want, ",") || e != api.OK {
				t.Fatalf("PrintSchema(%v) = %q, %d", s, text, e)
			}
			if got, e := value.ParseSchema(text); !slices.Equal(got.Fields, s.Fields) || e != api.OK {
				t.Fatalf("ParseSchema(%q) = %v, %d", text, got, e)
			}
		})
	}
}

func wantParse(t *testing.T, s api.Schema, text string) {
	t.Helper()
	want, ok := bookParse(s, text)
	e := api.ErrText
	if ok {
		e = api.OK
	} else {
		want = nil
	}
	if got, errno := value.Parse(s, text); !slices.Equal(got, want) || errno != e {
		t.Fatalf("Parse(%v, %q) = %v, %d, want %v, %d", s, text, got, errno, want, e)
	}
}

// P6.9: every short text out of pieces of records.
func TestParseOfEveryShortText(t *testing.T) {
	s := parsed(t, example)
	pieces := []string{"{", "}", "n=", "on=", "tag=", ",", "1", "-", "0", "true", "false", `"`, "n", "="}
	for length := range 5 {
		drill.Scripts(pieces, length, func(script []string) {
			wantParse(t, s, strings.Join(script, ""))
			wantParse(t, s, "{"+strings.Join(script, "")+"}")
		})
	}
	items := []string{"n=1", "n=-5", "on=true", "on=false", `tag="a,}"`, `tag=""`, "m=1", "n=", "on=1", "tag=a", "", "n=0 ", `on=true"`}
	for length := range 5 {
		drill.Scripts(items, length, func(script []string) { wantParse(t, s, "{"+strings.Join(script, ",")+"}") })
	}
}

// P6.9: fields of which one's name begins another's, or is a value's word.
func TestParseOfNamesThatBeginOthers(t *testing.T) {
	s := parsed(t, "a:int,aa:int?,aaa:bool,True:bool,a_:bytes")
	items := []string{"a=1", "aa=2", "aaa=true", "True=true", `a_="a=1"`, "aaaa=1"}
	for length := range 6 {
		drill.Scripts(items, length, func(script []string) { wantParse(t, s, "{"+strings.Join(script, ",")+"}") })
	}
}

// P6.9: the byte at each place of a text is each byte in turn.
func TestParseOfTextsNearOne(t *testing.T) {
	s := parsed(t, example)
	for _, text := range []string{`{n=-70,on=true,tag="a\x0fé\""}`, `{n=0,on=false}`, `{tag=""}`, `{}`} {
		wantParse(t, s, text)
		for place := range len(text) + 1 {
			for c := range 256 {
				one := string([]byte{byte(c)})
				wantParse(t, s, text[:place]+one+text[place:])
				wantParse(t, s, text[:place]+one+text[min(place+1, len(text)):])
			}
			wantParse(t, s, text[:place])
			wantParse(t, s, text[place:])
			wantParse(t, s, text[:place]+text[min(place+1, len(text)):])
		}
	}
}

// P6.9: ints as Print writes them, at the edges of 64 bits, and otherwise.
func TestParseOfInts(t *testing.T) {
	s := of("i")
	for _, digits := range []string{"0", "1", "-1", "9", "10", "-10", "9223372036854775806", "9223372036854775807", "9223372036854775808", "-9223372036854775807", "-9223372036854775808", "-9223372036854775809", "18446744073709551616", "99999999999999999999", "-99999999999999999999"} {
		for _, ahead := range []string{"", "-", "+", "0", "-0", "00", "0x", " ", "_"} {
			for _, behind := range []string{"", " ", "_", "_0", "-", ".", ".0", "e1", "a", "L"} {
				wantParse(t, s, "{f0="+ahead+digits+behind+"}")
			}
		}
	}
	for _, digits := range []string{"", "-", "--1", "1-", "1-1", "+", "٣", strings.Repeat("0", 1<<20), strings.Repeat("9", 1<<20), strings.Repeat("-", 1<<20)} {
		if r, e := value.Parse(s, "{f0="+digits+"}"); len(r) != 0 || e != api.ErrText {
			t.Errorf("Parse of the int %.30q = %v, %d", digits, r, e)
		}
	}
}

// P6.8, P6.9, P6.12: there and back; the items are those of the fields that are present.
func TestEveryEdgeRecordAsText(t *testing.T) {
	for _, types := range shapes {
		s := of(types)
		records(s, func(r []api.Value) {
			var items []string
			for i, v := range r {
				if v.Kind != api.None {
					items = append(items, s.Fields[i].Name+"="+bookPrint(v))
				}
			}
			want := "{" + strings.Join(items, ",") + "}"
			if got, e := value.Print(s, r); got != want || e != api.OK {
				t.Fatalf("Print(%v) = %q, %d, want %q", r, got, e, want)
			}
			if got, e := value.Parse(s, want); !slices.Equal(got, r) || e != api.OK {
				t.Fatalf("Parse(%q) = %v, %d", want, got, e)
			}
		})
	}
}

func TestParseOfVeryLongTexts(t *testing.T) {
	s := parsed(t, example)
	for _, piece := range []string{"{", "}", "x", "{n=1,", `{tag="`, "=", ",", `{tag="\x61`, "{}"} {
		if r, e := value.Parse(s, strings.Repeat(piece, 1<<18)); len(r) != 0 || e != api.ErrText {
			t.Errorf("Parse of very many %q = %v, %d", piece, r, e)
		}
	}
	long := `{tag="` + letters(1<<20) + `"}`
	if r, e := value.Parse(s, long); len(r) != 0 || e != api.ErrText {
		t.Errorf("Parse of a very long literal = %v, %d", r, e)
	}
}
