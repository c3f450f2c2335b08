package value_test

import (
	"math"
	"slices"
	"strings"
	"testing"

	"arbor/api"
	"arbor/drill"
	"arbor/value"
)

const example = "n:int,on:bool,tag:bytes?"

func wantSchema(t *testing.T, s api.Schema, want api.Errno) {
	t.Helper()
	if e := value.CheckSchema(s); e != want {
		t.Errorf("CheckSchema(%v) = %d, want %d", s, e, want)
	}
}

// P6.1: every list of types that is short enough to be tried whole.
func TestSchemasOfEveryTypes(t *testing.T) {
	for _, c := range []struct {
		types  string
		length int
	}{{"ibsIBS", 0}, {"ibsIBS", 1}, {"ibsIBS", 2}, {"ibsIBS", 3}, {"ibsIBS", 4}, {"ibsIBS", 5}, {"ibI", 6}, {"ibI", 7}, {"ibI", 8}, {"bB", 9}, {"bB", 10}} {
		drill.Scripts([]rune(c.types), c.length, func(types []rune) {
			s := of(string(types))
			wantSchema(t, s, bookSchema(s))
		})
	}
}

func TestSchemasAtTheWidest(t *testing.T) {
	for types, want := range map[string]api.Errno{
		"SSS":      api.OK, // 64
		"sssb":     api.OK, // 64
		"sssB":     api.ErrSchema,
		"sssbb":    api.ErrSchema,
		"iiiiiibb": api.OK, // 62
		"IIIIIIBB": api.OK, // 63
		"iiiiiii":  api.ErrSchema,
		"ssiibb":   api.OK, // 64
		"ssiibB":   api.ErrSchema,
		"BBBBBBBB": api.OK,
	} {
		wantSchema(t, of(types), want)
	}
}

func TestSchemasOfEveryName(t *testing.T) {
	alphabet := []string{"a", "z", "A", "Z", "0", "9", "_", " ", "-", ":", "é", "\x00", "\xff", "@", "[", "`", "{", "/", "if", "not"}
	for length := range 4 {
		drill.Scripts(alphabet, length, func(script []string) {
			s := field(strings.Join(script, ""))
			wantSchema(t, s, bookSchema(s))
		})
	}
	for word := range strings.FieldsSeq(bookKeywords) {
		wantSchema(t, field(word), api.ErrSchema)
		wantSchema(t, field(strings.ToUpper(word)), api.OK)
		wantSchema(t, field(word+"_"), api.OK)
	}
	for length := range 12 {
		want := api.OK
		if length < 1 || length > api.MaxName {
			want = api.ErrSchema
		}
		wantSchema(t, field(letters(length)), want)
	}
	wantSchema(t, field(letters(1<<22)), api.ErrSchema)
}

func TestSchemasWithNamesAlike(t *testing.T) {
	for length := 2; length <= api.MaxFields; length++ {
		for i := range length {
			for j := range length {
				s := of(strings.Repeat("b", length))
				s.Fields[i].Name = s.Fields[j].Name
				want := api.ErrSchema
				if i == j {
					want = api.OK
				}
				wantSchema(t, s, want)
			}
		}
	}
	wantSchema(t, api.Schema{Fields: []api.Field{{Name: "a", Type: api.Int}, {Name: "A", Type: api.Int}}}, api.OK)
}

func TestSchemasOfWrongTypes(t *testing.T) {
	for _, k := range []int{api.None, 4, 5, -1, 255, 256, 257, math.MaxInt, math.MinInt, 1 << 32, 1<<32 + 1} {
		for _, optional := range []bool{false, true} {
			wantSchema(t, api.Schema{Fields: []api.Field{{Name: "n", Type: k, Optional: optional}}}, api.ErrSchema)
			wantSchema(t, api.Schema{Fields: []api.Field{{Name: "m", Type: 1}, {Name: "n", Type: k, Optional: optional}}}, api.ErrSchema)
		}
	}
}

func TestSchemasOfNoFieldsAndOfMany(t *testing.T) {
	wantSchema(t, api.Schema{}, api.ErrSchema)
	wantSchema(t, api.Schema{Fields: []api.Field{}}, api.ErrSchema)
	wantSchema(t, api.Schema{Fields: make([]api.Field, 1<<20)}, api.ErrSchema)
}

// wrongSchemas: one for each reason that there is.
func wrongSchemas() []api.Schema {
	return []api.Schema{{}, of("bbbbbbbbb"), of("ssss"), field("if"), field("9"), field(""), {Fields: []api.Field{{Name: "n", Type: 4}}}, {Fields: []api.Field{{Name: "n", Type: 1}, {Name: "n", Type: 1}}}}
}

// P6.1: ErrSchema comes ahead of all else, and with it nothing.
func TestEveryCallRefusesWhatIsNoSchema(t *testing.T) {
	for _, s := range wrongSchemas() {
		for _, vs := range [][]api.Value{nil, {number(1)}, {{Kind: 9}}, make([]api.Value, len(s.Fields)), make([]api.Value, 20)} {
			if e := value.Check(s, vs); e != api.ErrSchema {
				t.Errorf("Check(%v) = %d", s, e)
			}
			if r, e := value.Make(s, vs...); len(r) != 0 || e != api.ErrSchema {
				t.Errorf("Make(%v) = %v, %d", s, r, e)
			}
			if b, e := value.Encode(s, vs); len(b) != 0 || e != api.ErrSchema {
				t.Errorf("Encode(%v) = %v, %d", s, b, e)
			}
			if text, e := value.Print(s, vs); text != "" || e != api.ErrSchema {
				t.Errorf("Print(%v) = %q, %d", s, text, e)
			}
		}
		for _, b := range []string{"", "\x00", "{}", "x"} {
			if r, e := value.Decode(s, []byte(b)); len(r) != 0 || e != api.ErrSchema {
				t.Errorf("Decode(%v) = %v, %d", s, r, e)
			}
			if r, e := value.Parse(s, b); len(r) != 0 || e != api.ErrSchema {
				t.Errorf("Parse(%v) = %v, %d", s, r, e)
			}
		}
		if r := value.Zero(s); len(r) != 0 {
			t.Errorf("Zero(%v) = %v", s, r)
		}
		if text, e := value.PrintSchema(s); text != "" || e != api.ErrSchema {
			t.Errorf("PrintSchema(%v) = %q, %d", s, text, e)
		}
	}
}

// someValues: of every kind, right ones and wrong ones.
func someValues() []api.Value {
	var vs []api.Value
	for _, kind := range []int{api.None, api.Int, api.Bool, api.Bytes, 4, -1, 257, 1 << 32} {
		for _, n := range []int64{0, 1, 2, -1, 1 << 32, math.MaxInt64, math.MinInt64} {
			for _, s := range []string{"", "x", letters(20), letters(21), letters(276), letters(1 << 16)} {
				vs = append(vs, api.Value{Kind: kind, N: n, S: s})
			}
		}
	}
	return vs
}

// P6.2, P6.4, P6.5, P6.8: what fits a field, in each place and beside others.
func TestValuesThatFit(t *testing.T) {
	for _, types := range []string{"i", "b", "s", "I", "B", "S", "iS", "Bi"} {
		s := of(types)
		for place, f := range s.Fields {
			for _, v := range someValues() {
				r := value.Zero(s)
				r[place] = v
				want := api.ErrValue
				if bookFits(f, v) {
					want = api.OK
				}
				wantRecord(t, s, r, want)
			}
		}
	}
}

func wantRecord(t *testing.T, s api.Schema, r []api.Value, want api.Errno) {
	t.Helper()
	if e := value.Check(s, r); e != want {
		t.Errorf("Check(%v, %.40v) = %d, want %d", s, r, e, want)
	}
	made, e := value.Make(s, r...)
	if e != want || (e == api.OK) != slices.Equal(made, r) || e != api.OK && len(made) != 0 {
		t.Errorf("Make(%v, %.40v) = %v, %d, want %d", s, r, made, e, want)
	}
	b, e := value.Encode(s, r)
	if e != want || (e == api.OK) != (len(b) > 0) {
		t.Errorf("Encode(%v, %.40v) = %v, %d, want %d", s, r, b, e, want)
	}
	text, e := value.Print(s, r)
	if e != want || (e == api.OK) != (text != "") {
		t.Errorf("Print(%v, %.40v) = %v, %d, want %d", s, r, text, e, want)
	}
}

func TestRecordsOfAnotherLength(t *testing.T) {
	s := parsed(t, example)
	full := []api.Value{number(5), truth(1), none, none, none}
	for length := range 6 {
		want := api.ErrValue
		if length == 3 {
			want = api.OK
		}
		r := full[:length]
		if e := value.Check(s, r); e != want {
			t.Errorf("Check of %d values = %d", length, e)
		}
		if b, e := value.Encode(s, r); e != want || len(b) != 0 && e != api.OK {
			t.Errorf("Encode of %d values = %v, %d", length, b, e)
		}
		if text, e := value.Print(s, r); e != want || text != "" && e != api.OK {
			t.Errorf("Print of %d values = %q, %d", length, text, e)
		}
	}
	if e := value.Check(s, make([]api.Value, 1<<20)); e != api.ErrValue {
		t.Errorf("Check of very many values = %d", e)
	}
}

// P6.3: of every field by itself.
func TestZeroOfEveryTypes(t *testing.T) {
	for length := 1; length <= 4; length++ {
		drill.Scripts([]rune("ibsIBS"), length, func(types []rune) {
			s := of(string(types))
			if bookSchema(s) != api.OK {
				return
			}
			var want []api.Value
			for _, c := range types {
				want = append(want, map[rune]api.Value{'i': number(0), 'b': truth(0), 's': text(""), 'I': none, 'B': none, 'S': none}[c])
			}
			if got := value.Zero(s); !slices.Equal(got, want) {
				t.Fatalf("Zero of %s = %v", string(types), got)
			}
			if e := value.Check(s, want); e != api.OK {
				t.Fatalf("Check of the zero record of %s = %d", string(types), e)
			}
		})
	}
}

// P6.4: every number of values, right ones and one wrong one among them.
func TestMakeOfSoManyValues(t *testing.T) {
	s := of("IbBsS")
	right := []api.Value{number(-3), truth(1), truth(1), text("q"), text("")}
	for length := range len(right) + 1 {
		want := append(slices.Clone(right[:length]), value.Zero(s)[length:]...)
		got, e := value.Make(s, right[:length]...)
		if !slices.Equal(got, want) || e != api.OK {
			t.Errorf("Make of %d values = %v, %d", length, got, e)
		}
		for wrong := range length {
			vs := slices.Clone(right[:length])
			vs[wrong] = api.Value{Kind: 4}
			if got, e := value.Make(s, vs...); len(got) != 0 || e != api.ErrValue {
				t.Errorf("Make of %d values, the one at %d wrong = %v, %d", length, wrong, got, e)
			}
		}
	}
	for _, much := range []int{1, 2, 1 << 20} {
		if got, e := value.Make(s, append(slices.Clone(right), make([]api.Value, much)...)...); len(got) != 0 || e != api.ErrValue {
			t.Errorf("Make of %d values too many = %v, %d", much, got, e)
		}
	}
}

// R4, R5: an answer is new memory, and an argument stays as it is, with its spare room.
func TestAnswersAreNewMemory(t *testing.T) {
	s := parsed(t, example)
	fields := slices.Clone(s.Fields)
	vs := []api.Value{number(5), truth(1), text("ab"), number(99)}
	r, _ := value.Make(s, vs[:3]...)
	short, _ := value.Make(s, vs[:1]...)
	r[0], short[0], short[1] = number(7), number(8), truth(1)
	if !slices.Equal(vs, []api.Value{number(5), truth(1), text("ab"), number(99)}) {
		t.Errorf("Make changed what it was given: %v", vs)
	}
	one, two := value.Zero(s), value.Zero(s)
	one[0] = number(9)
	if two[0] != number(0) || value.Zero(s)[0] != number(0) {
		t.Error("two zero records share memory")
	}
	b, _ := value.Encode(s, vs[:3])
	got, _ := value.Decode(s, b)
	again, _ := value.Encode(s, vs[:3])
	for i := range b {
		b[i] = 0xee
	}
	if !slices.Equal(got, vs[:3]) || !slices.Equal(again, bookEncode(s, vs[:3])) {
		t.Errorf("records hang on bytes that were theirs: %v, % x", got, again)
	}
	other := parsed(t, example)
	other.Fields[0].Name = "changed"
	if !slices.Equal(s.Fields, fields) || !slices.Equal(parsed(t, example).Fields, fields) {
		t.Error("two schemas share memory")
	}
}
