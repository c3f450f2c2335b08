package migrate_test

import (
	"regexp"
	"slices"
	"strings"
	"testing"

	"arbor/api"
	"arbor/drill"
	"arbor/lexer"
	"arbor/migrate"
	"arbor/syntax"
	"arbor/value"
)

// The book: the chapter's words once more, by other means than the program: edits are told by a pattern, a schema is a list of its fields' texts, a record its values by their fields' names, a program the words of its text.

const keywords = " and cat clear delete else false has here if len max min new not or pick true "

var (
	namePattern = regexp.MustCompile(`^[A-Za-z_][A-Za-z0-9_]{0,7}$`)
	editPattern = regexp.MustCompile(`^ *(?:(add) +([A-Za-z0-9_]+):(int|bool|bytes)(\??)|(drop|optional|plain) +([A-Za-z0-9_]+)|(rename) +([A-Za-z0-9_]+) +([A-Za-z0-9_]+)) *$`)
	typeWords   = map[string]int{"int": api.Int, "bool": api.Bool, "bytes": api.Bytes}
	kindWords   = map[string]int{"add": api.EdAdd, "drop": api.EdDrop, "rename": api.EdRename, "optional": api.EdOptional, "plain": api.EdPlain}
)

func isName(text string) bool {
	return namePattern.MatchString(text) && !strings.Contains(keywords, " "+text+" ")
}

// bookEdit: the edit that a piece is.
func bookEdit(piece string) (api.Edit, bool) {
	m := editPattern.FindStringSubmatch(piece)
	switch {
	case m == nil:
		return api.Edit{}, false
	case m[1] != "":
		return api.Edit{Kind: kindWords[m[1]], Field: api.Field{Name: m[2], Type: typeWords[m[3]], Optional: m[4] != ""}}, isName(m[2])
	case m[5] != "":
		return api.Edit{Kind: kindWords[m[5]], Name: m[6]}, isName(m[6])
	}
	return api.Edit{Kind: kindWords[m[7]], Name: m[8], To: m[9]}, isName(m[8]) && isName(m[9])
}

func bookParse(text string) ([]api.Edit, api.Errno, int) {
	var es []api.Edit
	if text == "" {
		return es, api.OK, 0
	}
	for number, piece := range strings.Split(text, ";") {
		e, is := bookEdit(piece)
		if !is {
			return nil, api.ErrEdit, number
		}
		es = append(es, e)
	}
	if len(es) > 16 {
		return nil, api.ErrEdit, 16
	}
	return es, api.OK, 0
}

// bookWellMade: by the table.
func bookWellMade(e api.Edit) bool {
	switch e.Kind {
	case api.EdAdd:
		return isName(e.Field.Name) && e.Field.Type >= 1 && e.Field.Type <= 3 && e.Name == "" && e.To == ""
	case api.EdRename:
		return isName(e.Name) && isName(e.To) && e.Field == api.Field{}
	case api.EdDrop, api.EdOptional, api.EdPlain:
		return isName(e.Name) && e.To == "" && e.Field == api.Field{}
	}
	return false
}

func bookPrint(es []api.Edit) (string, api.Errno) {
	text := ""
	for i, e := range es {
		if i == 16 || !bookWellMade(e) {
			return "", api.ErrEdit
		}
		if i > 0 {
			text += "; "
		}
		switch e.Kind {
		case api.EdAdd:
			text += "add " + fieldText(e.Field)
		case api.EdDrop:
			text += "drop " + e.Name
		case api.EdRename:
			text += "rename " + e.Name + " " + e.To
		case api.EdOptional:
			text += "optional " + e.Name
		case api.EdPlain:
			text += "plain " + e.Name
		}
	}
	return text, api.OK
}

func fieldText(f api.Field) string {
	text := f.Name + ":" + []string{"", "int", "bool", "bytes"}[f.Type]
	if f.Optional {
		text += "?"
	}
	return text
}

// fieldTexts: a schema as the book has it.
func fieldTexts(s api.Schema) []string {
	var list []string
	for _, f := range s.Fields {
		list = append(list, fieldText(f))
	}
	return list
}

// named: the place of the field that is called so, or -1.
func named(fields []string, name string) int {
	return slices.IndexFunc(fields, func(text string) bool { return strings.HasPrefix(text, name+":") })
}

// bookFields: what a well made edit makes of fields, if it can be done.
func bookFields(fields []string, e api.Edit) ([]string, bool) {
	fields = slices.Clone(fields)
	at := named(fields, e.Name)
	if e.Kind == api.EdAdd {
		return append(fields, fieldText(e.Field)), named(fields, e.Field.Name) < 0
	}
	if at < 0 {
		return nil, false
	}
	is, absent := strings.CutSuffix(fields[at], "?")
	_, of, _ := strings.Cut(fields[at], ":")
	switch e.Kind {
	case api.EdDrop:
		return slices.Delete(fields, at, at+1), true
	case api.EdRename:
		free := named(fields, e.To) < 0
		fields[at] = e.To + ":" + of
		return fields, free
	case api.EdOptional:
		fields[at] = is + "?"
		return fields, !absent
	}
	fields[at] = is
	return fields, absent
}

func bookTarget(s api.Schema, es []api.Edit) (api.Schema, api.Errno) {
	if e := value.CheckSchema(s); e != api.OK {
		return api.Schema{}, e
	}
	if len(es) > 16 {
		return api.Schema{}, api.ErrEdit
	}
	for _, e := range es {
		if !bookWellMade(e) {
			return api.Schema{}, api.ErrEdit
		}
		fields, can := bookFields(fieldTexts(s), e)
		next, wrong := value.ParseSchema(strings.Join(fields, ","))
		if !can || wrong != api.OK {
			return api.Schema{}, api.ErrEdit
		}
		s = next
	}
	return s, api.OK
}

// bookRecord: of a record of the schema; all edits can be done.
func bookRecord(s api.Schema, r []api.Value, es []api.Edit) []api.Value {
	has := map[string]api.Value{}
	for i, f := range s.Fields {
		has[f.Name] = r[i]
	}
	fields := fieldTexts(s)
	for _, e := range es {
		_, of, _ := strings.Cut(fields[max(0, named(fields, e.Name))], ":")
		zero := api.Value{Kind: typeWords[strings.TrimSuffix(of, "?")]}
		switch {
		case e.Kind == api.EdAdd && !e.Field.Optional:
			has[e.Field.Name] = api.Value{Kind: e.Field.Type}
		case e.Kind == api.EdRename:
			has[e.To] = has[e.Name]
			delete(has, e.Name)
		case e.Kind == api.EdDrop:
			delete(has, e.Name)
		case e.Kind == api.EdPlain && has[e.Name].Kind == api.None:
			has[e.Name] = zero
		}
		fields, _ = bookFields(fields, e)
	}
	var vals []api.Value
	for _, text := range fields {
		name, _, _ := strings.Cut(text, ":")
		vals = append(vals, has[name])
	}
	return vals
}

func bookRow(s api.Schema, row api.Row, es []api.Edit) api.Row {
	if !row.Here {
		return api.Row{}
	}
	return api.Row{Here: true, Vals: bookRecord(s, row.Vals, es)}
}

// wordsOf: a program's words; none, and false, if it is too long for a source.
func wordsOf(p []api.Stmt) ([]string, bool) {
	text, _ := syntax.Print(p)
	tokens, e, _ := lexer.Lex(text)
	var list []string
	for _, token := range tokens {
		word, _ := lexer.Join(token)
		list = append(list, word)
	}
	return list, e == api.OK
}

// becomes: what changes the field at that place, if that begins a statement: "=", "+=", "min", "max"; else nothing.
func becomes(words []string, at int) string {
	if at+2 >= len(words) {
		return ""
	}
	if next := words[at+1]; next == "=" || next == "+=" || (next == "min" || next == "max") && words[at+2] == "=" {
		return next
	}
	return ""
}

// endOf: where the statement ends in which a place is, of one without a block.
func endOf(words []string, at int) int {
	for at < len(words) && words[at] != ";" && words[at] != "}" {
		at++
	}
	return at
}

// bookWords: what an edit of a field makes of the words of a program; false, if it refuses it.
func bookWords(fields, words []string, e api.Edit) ([]string, bool) {
	switch e.Kind {
	case api.EdAdd:
		return words, true
	case api.EdDrop:
		return dropWords(words, e.Name)
	case api.EdRename:
		var list []string
		for _, word := range words {
			if word == e.Name {
				word = e.To
			}
			list = append(list, word)
		}
		return list, true
	}
	of := fields[named(fields, e.Name)]
	zero := map[string]string{"int": "0", "bool": "false", "bytes": `""`}[strings.TrimSuffix(of[len(e.Name)+1:], "?")]
	if e.Kind == api.EdOptional {
		return optionalWords(words, e.Name, zero), true
	}
	return plainWords(fields, words, e.Name, zero)
}

func dropWords(words []string, name string) ([]string, bool) {
	var list []string
	for at := 0; at < len(words); at++ {
		if words[at] == name && becomes(words, at) != "" || words[at] == "clear" && words[at+1] == name {
			// With the ; behind it; and where that stood ahead of it alone, it may stand at the list's end.
			if at = endOf(words, at); at < len(words) && words[at] == "}" {
				at--
			}
			continue
		}
		list = append(list, words[at])
	}
	return list, !slices.Contains(list, name)
}

func optionalWords(words []string, name, zero string) []string {
	var list []string
	for at, word := range words {
		switch {
		case word == "new":
			list = append(list, "if", "not", "here", "{", "new", ";", name, "=", zero, "}")
		case word == name && becomes(words, at) == "":
			list = append(list, "(", name, "??", zero, ")")
		default:
			list = append(list, word)
		}
	}
	return list
}

func plainWords(fields, words []string, name, zero string) ([]string, bool) {
	var list []string
	for at := 0; at < len(words); at++ {
		how := becomes(words, at)
		switch {
		case words[at] == "clear" && words[at+1] == name:
			list = append(list, name, "=", zero)
			at++
		case words[at] == name && how == "=" && endOf(words, at) == at+3:
			list = append(list, name, "=", words[at+2])
			if from := named(fields, words[at+2]); words[at+2] != name && from >= 0 && strings.HasSuffix(fields[from], "?") {
				list = append(list, "??", zero)
			}
			at += 2
		case words[at] == name && how != "=" && how != "+=":
			return nil, false
		default:
			list = append(list, words[at])
		}
	}
	return list, true
}

// countWords: how many statements there are in a program of these words: each has one of them, and just one.
func countWords(words []string) int {
	many := 0
	for _, word := range words {
		if slices.Contains([]string{"=", "+=", "clear", "new", "delete", "if"}, word) {
			many++
		}
	}
	return many
}

// bookProgram: of a program that fits; all edits can be done. Where a statement gets too long for a source, the book does not know.
func bookProgram(s api.Schema, p []api.Stmt, es []api.Edit) (q []api.Stmt, e api.Errno, known bool) {
	fields := fieldTexts(s)
	for _, edit := range es {
		var next []api.Stmt
		many, wrong := 0, api.OK
		for i := range p {
			words, short := wordsOf(p[i : i+1])
			if !short {
				return nil, api.OK, false
			}
			words, can := bookWords(fields, words, edit)
			if !can {
				return nil, api.ErrEdit, true
			}
			part, e, _ := syntax.Parse(strings.Join(words, " "))
			if e == api.ErrSource {
				return nil, api.OK, false
			}
			many += countWords(words)
			wrong = max(wrong, e)
			next = append(next, part...)
		}
		if many > 32 {
			return nil, api.ErrMany, true
		}
		if wrong != api.OK {
			return nil, wrong, true
		}
		p = next
		fields, _ = bookFields(fields, edit)
	}
	return p, api.OK, true
}

// And what the tests make of it:

// editsOf: the edits of a text, as the book has them.
func editsOf(text string) []api.Edit {
	es, e, _ := bookParse(text)
	if e != api.OK {
		panic("no edits: " + text)
	}
	return es
}

// shown: edits for a message; of those that may not be, too, how many.
func shown(es []api.Edit) string {
	text, e := bookPrint(es)
	if e != api.OK {
		return "no edits"
	}
	return text
}

func sameSchema(a, b api.Schema) bool {
	return slices.Equal(a.Fields, b.Fields)
}

func wantParse(t *testing.T, text string) {
	t.Helper()
	want, errno, place := bookParse(text)
	es, e, at := migrate.Parse(text)
	if e != errno || at != place || !slices.Equal(es, want) {
		t.Fatalf("Parse(%.99q) = %v, %d, %d, want %v, %d, %d", text, es, e, at, want, errno, place)
	}
}

func wantPrint(t *testing.T, es []api.Edit) {
	t.Helper()
	want, errno := bookPrint(es)
	text, e := migrate.Print(es...)
	if e != errno || text != want {
		t.Fatalf("Print(%v) = %q, %d, want %q, %d", es[:min(len(es), 17)], text, e, want, errno)
	}
}

func wantTarget(t *testing.T, s api.Schema, es []api.Edit) (api.Schema, api.Errno) {
	t.Helper()
	want, errno := bookTarget(s, es)
	target, e := migrate.Target(s, es...)
	if e != errno || !sameSchema(target, want) {
		t.Fatalf("Target(%v, %s) = %v, %d, want %v, %d", s, shown(es), target, e, want, errno)
	}
	return want, errno
}

// wantRecord: what the book says, also of a list that is no record.
func wantRecord(t *testing.T, s api.Schema, r []api.Value, es []api.Edit) []api.Value {
	t.Helper()
	var want []api.Value
	target, errno := bookTarget(s, es)
	if errno == api.OK {
		errno = value.Check(s, r)
	}
	if errno == api.OK {
		want = bookRecord(s, r, es)
		if value.Check(target, want) != api.OK {
			t.Fatalf("%s makes of %v what is no record: %v", shown(es), r, want)
		}
	}
	got, e := migrate.Record(s, r, es...)
	if e != errno || !slices.Equal(got, want) {
		t.Fatalf("Record(%v, %v, %s) = %v, %d, want %v, %d", s, r[:min(len(r), 9)], shown(es), got, e, want, errno)
	}
	return want
}

// wantProgram: what the book says, if it knows.
func wantProgram(t *testing.T, s api.Schema, p []api.Stmt, es []api.Edit) (e api.Errno, known bool) {
	t.Helper()
	want, errno, known := bookProgram(s, p, es)
	if known {
		wantProgramIs(t, s, p, es, want, errno)
	}
	return errno, known
}

func wantProgramIs(t *testing.T, s api.Schema, p []api.Stmt, es []api.Edit, want []api.Stmt, errno api.Errno) {
	t.Helper()
	if q, e := migrate.Program(s, p, es...); e != errno || !drill.Same(q, want) {
		t.Fatalf("Program of %s by %s: %s, %d, want %s, %d", drill.Shown(p), shown(es), drill.Shown(q), e, drill.Shown(want), errno)
	}
}

// anyEdit: of the fields of a schema or of others, with names that may be; whether it can be done or not.
func anyEdit(n *drill.Numbers, s api.Schema) api.Edit {
	names, others := []string{"x"}, []string{"x", "y", "z", "w", "v"}
	for _, f := range s.Fields {
		names, others = append(names, f.Name, f.Name), append(others, f.Name)
	}
	e := api.Edit{Kind: 1 + n.Below(5), Name: drill.Pick(n, names)}
	switch e.Kind {
	case api.EdAdd:
		e.Name = ""
		e.Field = api.Field{Name: drill.Pick(n, others), Type: 1 + n.Below(3), Optional: n.Below(2) == 0}
	case api.EdRename:
		e.To = drill.Pick(n, others)
	}
	return e
}

// fittingEdits: so many edits of a schema.
func fittingEdits(n *drill.Numbers, s api.Schema, many int) []api.Edit {
	var es []api.Edit
	for len(es) < many {
		e := anyEdit(n, s)
		if target, errno := bookTarget(s, []api.Edit{e}); errno == api.OK {
			es, s = append(es, e), target
		}
	}
	return es
}

// schemas: of all kinds of fields, narrow and wide ones, of one field and of eight.
func schemas() []api.Schema {
	list := drill.Schemas()
	for _, text := range []string{"n:int", "m:int?", "tag:bytes?", "a:int,b:int,c:int,d:int,e:int,f:int,g:bool,h:bool?", "a:bytes?,b:bytes?,c:bytes?", "a:bytes,b:bytes,c:int,d:int,e:bool,f:bool", "n:int,m:int?,k:int?", "x:bool?,y:bool,z:bytes"} {
		list = append(list, drill.SchemaOf(text))
	}
	return list
}
