package shell_test

import (
	"fmt"
	"regexp"
	"slices"
	"strconv"
	"strings"
	"unicode/utf8"

	"arbor/api"
	"arbor/disk"
	"arbor/lower"
	"arbor/machine"
	"arbor/pager"
	"arbor/store"
	"arbor/syntax"
	"arbor/value"
)

// The chapter told a second time: its table of forms as a text, each kind of argument as a pattern, and what each line answers in terms of the layers below.

const chapterForms = `store N N N N N N N REST
put KEY REST
delete KEY
upsert KEY REST
batch
apply
forget
get KEY
scan KEY KEY N
sync
checkpoint
seq
mode
audit
open
arm N
crash BITS
print REST
compile REST
run ROW REST`

const (
	numberForm  = `-?(?:0|[1-9][0-9]{0,7})`
	plainForm   = `[a-zA-Z0-9_.-]+`
	literalForm = `"(?:[ !#-\[\]-~]|[^\x00-\x7f]|\\["\\nt]|\\x[0-9a-fA-F]{2})*"`
	bitsForm    = `-|[01]+`
	rowForm     = `none|\{(?:[^"}]|"(?:[^"\\]|\\.)*")*\}`
	restForm    = `.*`
)

// forms: the pattern of each word's lines.
var forms = func() map[string]*regexp.Regexp {
	kinds := strings.NewReplacer("KEY", "("+plainForm+"|"+literalForm+")", "N", "("+numberForm+")", "BITS", "("+bitsForm+")", "ROW", "("+rowForm+")", "REST", "("+restForm+")")
	all := map[string]*regexp.Regexp{}
	for form := range strings.SplitSeq(chapterForms, "\n") {
		word, _, _ := strings.Cut(form, " ")
		all[word] = regexp.MustCompile(`(?s)\A` + kinds.Replace(form) + `\z`)
	}
	return all
}()

var plain = regexp.MustCompile(`\A` + plainForm + `\z`)

// tell: a line's word with its arguments as they stand there; false, if it is of no form.
func tell(line string) (string, []string, bool) {
	word, _, _ := strings.Cut(line, " ")
	form := forms[word]
	if form == nil || strings.Contains(line, "\n") {
		return "", nil, false
	}
	parts := form.FindStringSubmatch(line)
	if parts == nil {
		return "", nil, false
	}
	args := parts[1:]
	keys := map[string]int{"put": 1, "delete": 1, "upsert": 1, "get": 1, "scan": 2}[word]
	for _, text := range args[:keys] {
		if !utf8.ValidString(text) || len(keyOf(text)) > 20 && text[0] == '"' {
			return "", nil, false
		}
	}
	return word, args, true
}

func keyOf(text string) string {
	if text[0] != '"' {
		return text
	}
	key, err := strconv.Unquote(text)
	if err != nil {
		panic(err)
	}
	return key
}

func numberOf(text string) int {
	n, err := strconv.ParseInt(text, 10, 32)
	if err != nil {
		panic(err)
	}
	return int(n)
}

// silent: of a line that says nothing.
func silent(line string) bool {
	return line == "" || strings.HasPrefix(line, "#")
}

// book: what lines have made of layers below.
type book struct {
	d     *disk.Disk
	st    *store.Store
	batch []api.Change
	open  bool
}

// transcript: of a script, by the book.
func transcript(script string) string {
	text := ""
	b := &book{}
	for line := range strings.SplitSeq(script, "\n") {
		if !silent(line) {
			text += b.say(line) + "\n"
		}
	}
	return text
}

func told(e api.Errno) string {
	if e == api.OK {
		return "ok"
	}
	return fmt.Sprintf("error %d", e)
}

func toldAt(e api.Errno, at int) string {
	return fmt.Sprintf("error %d at %d", e, at)
}

func (b *book) say(line string) string {
	word, args, ok := tell(line)
	switch {
	case !ok:
		return "error 190"
	case word == "store":
		return b.create(args)
	case b.d == nil:
		return "error 191"
	case word == "open":
		return b.reopen()
	case word == "arm":
		return told(b.d.Arm(numberOf(args[0])))
	case word == "crash":
		var keep []bool
		for _, bit := range strings.Trim(args[0], "-") {
			keep = append(keep, bit == '1')
		}
		*b = book{d: b.d.Survive(keep)}
		return "ok"
	case b.st == nil:
		return "error 191"
	case slices.Contains([]string{"put", "delete", "upsert"}, word):
		return b.change(word, args)
	case slices.Contains([]string{"batch", "apply", "forget"}, word):
		return b.ofBatch(word)
	}
	return b.ask(word, args)
}

func (b *book) create(args []string) string {
	*b = book{}
	var n []int
	for _, text := range args[:7] {
		n = append(n, numberOf(text))
	}
	g := api.Geometry{Sector: n[0], Per: n[1], Log: n[2], Blocks: n[3]}
	if e := pager.Check(g); e != api.OK {
		return told(e)
	}
	s, e := value.ParseSchema(args[7])
	if e != api.OK {
		return told(e)
	}
	d, e := disk.New(2+g.Log+g.Per*g.Blocks, g.Sector)
	if e != api.OK {
		return told(e)
	}
	st, e := store.Create(d, g, api.Config{Fanout: n[4], Leaf: n[5], Buffer: n[6]}, s)
	if e == api.OK {
		*b = book{d: d, st: st}
	}
	return told(e)
}

func (b *book) reopen() string {
	st, e := store.Open(b.d)
	*b = book{d: b.d, st: st}
	if e != api.OK {
		return told(e)
	}
	return fmt.Sprintf("open %d", st.Seq())
}

func (b *book) change(word string, args []string) string {
	if b.open && len(b.batch) == 8 {
		return "error 181"
	}
	c := api.Change{Kind: api.MDelete, Key: keyOf(args[0])}
	e, at := api.OK, 0
	switch word {
	case "put":
		c.Kind = api.MPut
		if c.Vals, e = value.Parse(b.st.Schema(), args[1]); e != api.OK {
			return told(e)
		}
	case "upsert":
		c.Kind, c.Src = api.MUpsert, args[1]
	}
	if b.open {
		b.batch = append(b.batch, c)
		return "noted"
	}
	switch word {
	case "put":
		return told(b.st.Put(c.Key, c.Vals...))
	case "delete":
		return told(b.st.Delete(c.Key))
	}
	e = b.st.Upsert(c.Key, c.Src)
	if e < 70 || e > 129 {
		return told(e)
	}
	_, e, at = lower.Compile(b.st.Schema(), c.Src)
	return toldAt(e, at)
}

func (b *book) ofBatch(word string) string {
	if b.open == (word == "batch") {
		return "error 181"
	}
	changes := b.batch
	b.batch, b.open = nil, !b.open
	if word == "apply" {
		return told(b.st.Apply(changes...))
	}
	return "ok"
}

func (b *book) ask(word string, args []string) string {
	s := b.st.Schema()
	switch word {
	case "get":
		row, e := b.st.Get(keyOf(args[0]))
		return tellRow(s, row, e)
	case "scan":
		list, e := b.st.Scan(keyOf(args[0]), keyOf(args[1]), numberOf(args[2]))
		if e != api.OK {
			return told(e)
		}
		return tellEntries(s, list)
	case "sync":
		return told(b.st.Sync())
	case "checkpoint":
		return told(b.st.Checkpoint())
	case "seq":
		return fmt.Sprintf("seq %d", b.st.Seq())
	case "mode":
		return "mode " + []string{"", "open", "read only", "dead"}[b.st.Mode()]
	case "audit":
		r, e := store.Audit(b.d.Image(), b.st.Geometry().Sector)
		if e != api.OK {
			return told(e)
		}
		return fmt.Sprintf("audit %d", len(r.Bad))
	case "print":
		return tellProgram(args[0])
	case "compile":
		if _, e, at := lower.Compile(s, args[0]); e != api.OK {
			return toldAt(e, at)
		}
		return "ok"
	}
	return tellRun(s, args[0], args[1], func(src string, row api.Row) (api.Row, api.Errno) {
		code, _, _ := lower.Compile(s, src)
		return machine.Exec(s, code, row)
	})
}

func tellRow(s api.Schema, row api.Row, e api.Errno) string {
	switch {
	case e != api.OK:
		return told(e)
	case row.Here:
		text, _ := value.Print(s, row.Vals)
		return "row " + text
	}
	return "none"
}

func tellEntries(s api.Schema, list []api.Entry) string {
	text := fmt.Sprintf("rows %d", len(list))
	for _, entry := range list {
		key := entry.Key
		if !plain.MatchString(key) {
			key = value.Quote(key)
		}
		record, _ := value.Print(s, entry.Vals)
		text += " " + key + " " + record
	}
	return text
}

func tellProgram(src string) string {
	p, e, at := syntax.Parse(src)
	if e != api.OK {
		return toldAt(e, at)
	}
	text, _ := syntax.Print(p)
	return text
}

// tellRun: what a program makes of a row, by whatever runs it.
func tellRun(s api.Schema, text, src string, runs func(src string, row api.Row) (api.Row, api.Errno)) string {
	var row api.Row
	if text != "none" {
		vals, e := value.Parse(s, text)
		if e != api.OK {
			return told(e)
		}
		row = api.Row{Here: true, Vals: vals}
	}
	if _, e, at := lower.Compile(s, src); e != api.OK {
		return toldAt(e, at)
	}
	row, e := runs(src, row)
	return tellRow(s, row, e)
}
