package migrate_test

import (
	"math"
	"slices"
	"strings"
	"testing"

	"arbor/api"
	"arbor/drill"
	"arbor/migrate"
)

// P23.1: every text of a few pieces of words, marks and blanks.
func TestParseOfShortTexts(t *testing.T) {
	parts := []string{" ", ";", "add", "drop", "rename", "f", "f:int", "?", "if"}
	met := map[api.Errno]int{}
	for length := range 7 {
		drill.Scripts(parts, length, func(list []string) {
			text := strings.Join(list, "")
			wantParse(t, text)
			_, e, _ := bookParse(text)
			met[e]++
		})
	}
	if met[api.OK] < 500 || met[api.ErrEdit] < 1000 {
		t.Errorf("the texts are %v", met)
	}
}

// P23.1: what stands behind an edit's word.
func TestParseOfEachWord(t *testing.T) {
	behind := []string{"", "f", "f g", "f g h", "f g h i", "9", "f9", "_", "_9", "f-g", "f.", "é", "\xff", "\x00", "abcdefgh", "abcdefghi", "F", "int", "add", "drop", "f:int", "f:bool", "f:bytes", "f:int?", "f:bool?", "f:bytes?", "f:", ":int", "f:int??", "f:?", "f?:int", "f:Int", "f:ints", "f:none", "f: int", "f :int", "f:int ?", "f:int,", "f:int,g:int", "f::int", "f:int:int", "f:int g", "9:int", "if:int", "abcdefgh:int", "abcdefghi:int", "é:int", "f:int\x00", "f\t", "f\tg", "f\n", "\tf", "f\u00a0", "f\u2003g", "f\v", "f\f", "f\r"}
	for _, word := range strings.Fields(keywords) {
		behind = append(behind, word, word+":int", "f "+word, word+" f")
	}
	edits := 0
	for _, word := range []string{"add", "drop", "rename", "optional", "plain", "", "Add", "DROP", "adds", "ad", "turn", "add:", "f", "f:int", "0", "1", "drop\t", "\xff"} {
		for _, text := range behind {
			for _, whole := range []string{word + " " + text, word + "  " + text + "  ", " " + word + " " + text, word + text, text + " " + word, word + "\t" + text, word + "\u00a0" + text} {
				wantParse(t, whole)
				if _, e, _ := bookParse(whole); e == api.OK {
					edits++
				}
			}
		}
	}
	if edits < 100 {
		t.Errorf("%d texts are edits", edits)
	}
}

// P23.1: where the first piece stands that is no edit, and how many pieces there may be.
func TestParseOfManyPieces(t *testing.T) {
	for many := range 40 {
		pieces := slices.Repeat([]string{"rename f g"}, many)
		wantParse(t, strings.Join(pieces, ";"))
		wantParse(t, strings.Join(pieces, " ; "))
		wantParse(t, strings.Join(pieces, ";;"))
		wantParse(t, strings.Join(pieces, ";")+";")
		for place := range many {
			wrong := slices.Clone(pieces)
			for _, piece := range []string{"", " ", "drop", "rename f", "add if:int", "rename f g h"} {
				wrong[place] = piece
				wantParse(t, strings.Join(wrong, ";"))
				wrong[many-1] = piece
				wantParse(t, strings.Join(wrong, ";"))
			}
		}
	}
}

// P23.1: texts one step away from edits.
func TestParseOfSpoiledTexts(t *testing.T) {
	numbers := drill.Numbers(301)
	met := map[api.Errno]int{}
	for range 3000 {
		text := shown(someWellMade(&numbers, numbers.Below(5)))
		wantParse(t, text)
		for at := range text {
			for _, b := range numbers.Spoiled([]byte(text), at) {
				wantParse(t, string(b))
				_, e, _ := bookParse(string(b))
				met[e]++
			}
		}
	}
	if met[api.OK] < 1000 || met[api.ErrEdit] < 1000 {
		t.Errorf("the spoiled texts are %v", met)
	}
}

// P23.1, R1: texts of any length.
func TestParseOfLongTexts(t *testing.T) {
	const long = 1 << 20
	for _, text := range []string{
		strings.Repeat(" ", long), strings.Repeat(";", long), strings.Repeat("x", long), strings.Repeat("x ", long), strings.Repeat("\x00", long), strings.Repeat("\xff", long),
		"drop " + strings.Repeat("x", long), "drop f" + strings.Repeat(" ", long), strings.Repeat(" ", long) + "drop f", "drop" + strings.Repeat(" ", long) + "f", "drop " + strings.Repeat("f ", long),
		"add " + strings.Repeat("f:int,", long), "add f:" + strings.Repeat("int", long), "add f:int" + strings.Repeat("?", long), "rename f " + strings.Repeat("g", long), "rename f g " + strings.Repeat("h ", long),
		strings.Repeat("drop f;", long) + "drop f", strings.Repeat("drop f;", long), strings.Repeat("drop f;", long) + "drop if",
	} {
		wantParse(t, text)
	}
}

// someWellMade: so many edits, of the names at the edges, whether there is a schema for them or not.
func someWellMade(n *drill.Numbers, many int) []api.Edit {
	names := []string{"f", "n", "_", "Z9", "abcdefgh", "int", "a_1", "drop", "plain"}
	var es []api.Edit
	for len(es) < many {
		e := api.Edit{Kind: 1 + n.Below(5), Name: drill.Pick(n, names)}
		switch e.Kind {
		case api.EdAdd:
			e = api.Edit{Kind: e.Kind, Field: api.Field{Name: drill.Pick(n, names), Type: 1 + n.Below(3), Optional: n.Below(2) == 0}}
		case api.EdRename:
			e.To = drill.Pick(n, names)
		}
		if bookWellMade(e) {
			es = append(es, e)
		}
	}
	return es
}

// P23.2: Parse of Print answers the same edits; of a text that Parse takes, Print writes the same edits plainly.
func TestParseOfPrint(t *testing.T) {
	numbers := drill.Numbers(302)
	for i := range 2000 {
		es := someWellMade(&numbers, i%18)
		wantPrint(t, es)
		text, e := migrate.Print(es...)
		if len(es) > 16 {
			continue
		}
		again, errno, at := migrate.Parse(text)
		if e != api.OK || errno != api.OK || at != 0 || !slices.Equal(again, es) {
			t.Fatalf("Print(%v) = %q, %d; Parse of it = %v, %d, %d", es, text, e, again, errno, at)
		}
		wide := strings.ReplaceAll(strings.ReplaceAll(text, " ", "   "), ";", " ;  ")
		if again, errno, at = migrate.Parse(wide); errno != api.OK || at != 0 || !slices.Equal(again, es) {
			t.Fatalf("Parse(%q) = %v, %d, %d", wide, again, errno, at)
		}
	}
}

// P23.2: every edit of kinds, names and fields that may be and that may not: well made or not.
func TestPrintOfEachEdit(t *testing.T) {
	names := []string{"", "f", "abcdefgh", "abcdefghi", "if", "9", "f ", " f", "f g", "f;", "é", "f:int", "\x00", strings.Repeat("f", 1<<16)}
	fields := []api.Field{{}, {Optional: true}, {Type: api.Int}, {Name: "f"}, {Name: "f", Optional: true}, {Name: "f", Type: 4}, {Name: "f", Type: -1}, {Name: "f", Type: math.MaxInt}, {Name: "f", Type: math.MinInt}}
	for of := api.Int; of <= api.Bytes; of++ {
		for _, name := range names {
			fields = append(fields, api.Field{Name: name, Type: of}, api.Field{Name: name, Type: of, Optional: true})
		}
	}
	good := editsOf("plain f")[0]
	met := map[api.Errno]int{}
	for _, kind := range []int{math.MinInt, -1, 0, 1, 2, 3, 4, 5, 6, 7, 257, 1 << 32, math.MaxInt} {
		for _, name := range names {
			for _, to := range names {
				for _, f := range fields {
					e := api.Edit{Kind: kind, Name: name, To: to, Field: f}
					wantPrint(t, []api.Edit{e})
					wantPrint(t, []api.Edit{good, e, good})
					if _, errno := bookTarget(drill.SchemaOf("f:int,g:int?,h:int"), []api.Edit{e}); errno != api.OK {
						wantTarget(t, drill.SchemaOf("f:int,g:int?,h:int"), []api.Edit{e})
					}
					_, errno := bookPrint([]api.Edit{e})
					met[errno]++
				}
			}
		}
	}
	if met[api.OK] != 2*2*3+2*2+3*2 {
		t.Errorf("of all of them %v", met)
	}
}

// P23.2: so many edits, each of them well made, or one of them not.
func TestPrintOfManyEdits(t *testing.T) {
	for many := range 40 {
		es := slices.Repeat(editsOf("rename f f"), many)
		wantPrint(t, es)
		for place := range many {
			wrong := slices.Clone(es)
			wrong[place] = api.Edit{}
			wantPrint(t, wrong)
		}
	}
	wantPrint(t, make([]api.Edit, 1<<20))
	wantPrint(t, slices.Repeat(editsOf("drop f"), 1<<20))
}
