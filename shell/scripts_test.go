package shell_test

import (
	"strconv"
	"strings"
	"sync"
	"testing"

	"arbor/api"
	"arbor/drill"
	"arbor/shell"
)

// eachScript: of every measures and schema, with room for all keys or full soon, with losses of power or without.
func eachScript(t *testing.T, seed uint32, lines int, each func(m maker, roomy bool, script string)) {
	t.Helper()
	numbers := drill.Numbers(seed)
	for _, c := range drill.Measures() {
		for _, s := range drill.Schemas() {
			for _, power := range []bool{false, true} {
				for _, blocks := range []int{8*60 + 16, 12} {
					m := maker{Fitting: drill.Fitting{Schema: s, Numbers: &numbers}, keys: 40, power: power}
					g := drill.GeometryOf(c, blocks)
					g.Log = drill.Pick(&numbers, []int{2, 3, 20})
					each(m, blocks > 12, m.script(storeText(g, c, s), lines))
				}
			}
		}
	}
}

// 19.a: long scripts say what the book says, line by line, where blocks run out and power goes too.
func TestLongScripts(t *testing.T) {
	said := map[string]int{}
	eachScript(t, 1901, 400, func(m maker, _ bool, script string) {
		got := shell.Run(script)
		same(t, script, got, transcript(script))
		for line := range strings.SplitSeq(got, "\n") {
			word, _, _ := strings.Cut(line, " ")
			if word == "error" {
				word = line
			}
			said[word]++
		}
	})
	for _, word := range []string{"ok", "noted", "row", "rows", "none", "seq", "mode", "audit", "open", "error 1", "error 10", "error 30", "error 63", "error 80", "error 80 at 2", "error 140", "error 180", "error 181", "error 190", "error 191"} {
		if said[word] == 0 {
			t.Errorf("no line says %s", word)
		}
	}
}

// 19.a: every short script out of some lines, behind a store with a record.
func TestShortScripts(t *testing.T) {
	lines := []string{"put a {n=2}", "upsert a n += 1", "delete a", "batch", "apply", "forget", "open", "crash -", "crash 111111111111", "arm 0", "sync", home}
	for length := range 5 {
		drill.Scripts(lines, length, func(script []string) {
			text := home + "\nput a {n=1}\n" + strings.Join(script, "\n") + "\nget a\nseq\nmode\n"
			same(t, text, shell.Run(text), transcript(text))
		})
	}
}

// 19.a: a loss of power at every write of a script, with none, all or one of the waiting writes surviving.
func TestPowerAtEachWrite(t *testing.T) {
	for writes := range 60 {
		for _, keep := range []string{"-", strings.Repeat("1", 60), strings.Repeat("0", writes) + "1", strings.Repeat("01", 30)} {
			text := "store 1024 1 2 60 4 2 115 n:int,tag:bytes?\nput a {n=1}\nsync\narm " + strconv.Itoa(writes) + "\n"
			for i := range 12 {
				text += "upsert k" + strconv.Itoa(i%5) + " new; n += " + strconv.Itoa(i) + "\n"
				if i%4 == 3 {
					text += "checkpoint\n"
				}
			}
			text += "mode\nget k1\ncrash " + keep + "\nopen\nscan \"\" \"\" 99\nseq\naudit\nopen\nseq\n"
			same(t, text, shell.Run(text), transcript(text))
		}
	}
}

// 19.b: a script that goes on has a transcript that goes on.
func TestTranscriptsGoOn(t *testing.T) {
	eachScript(t, 1902, 40, func(m maker, _ bool, script string) {
		whole := shell.Run(script)
		lines := 0
		for i := range script {
			if script[i] != '\n' {
				continue
			}
			got := shell.Run(script[:i+1])
			if _, last, _ := cutLast(script[:i]); !silent(last) {
				lines++
			}
			if !strings.HasPrefix(whole, got) || strings.Count(got, "\n") != lines {
				t.Fatalf("the transcript of %d bytes has %d lines, want %d, those of the whole:\n%s", i+1, strings.Count(got, "\n"), lines, script)
			}
		}
	})
}

// cutLast: the text at its last line's end.
func cutLast(text string) (string, string, bool) {
	at := strings.LastIndex(text, "\n")
	return text[:max(at, 0)], text[at+1:], at >= 0
}

// 19.c: nothing is kept: scripts say the same again, in any order, and at one time.
func TestNothingIsKept(t *testing.T) {
	var scripts, want []string
	eachScript(t, 1903, 60, func(m maker, _ bool, script string) {
		scripts = append(scripts, script)
		want = append(want, shell.Run(script))
	})
	// A line alone says what it says without a store, whatever was run ahead of it.
	if got := shell.Run("open\nget a\napply\narm 1"); got != strings.Repeat("error 191\n", 4) {
		t.Errorf("a new script says %q", got)
	}
	for i := len(scripts) - 1; i >= 0; i-- {
		same(t, scripts[i], shell.Run(scripts[i]), want[i])
	}
	got := make([]string, len(scripts))
	var all sync.WaitGroup
	for i, script := range scripts {
		all.Add(1)
		go func() {
			defer all.Done()
			got[i] = shell.Run(script)
			shell.Check(script)
		}()
	}
	all.Wait()
	for i, script := range scripts {
		same(t, script, got[i], want[i])
	}
}

// R1: scripts and lines of any bytes and any length are played to their end.
func TestAnyBytes(t *testing.T) {
	numbers := drill.Numbers(1904)
	pieces := []string{" ", " ", " ", "\n", "\n", "store", "put", "delete", "upsert", "batch", "apply", "get", "scan", "run", "print", "arm", "crash", "open", "a", `""`, `"`, "{}", "{", "}", "none", "1", "-", "new", home + "\n", "\xff", "\x00", "#"}
	for range 3000 {
		text := ""
		for range numbers.Below(40) {
			text += drill.Pick(&numbers, pieces)
		}
		same(t, text, shell.Run(text), transcript(text))
		for line := range strings.SplitSeq(text, "\n") {
			formed(t, line)
		}
	}
	for range 3000 {
		raw := make([]byte, numbers.Below(60))
		for i := range raw {
			raw[i] = byte(numbers.Below(256))
		}
		same(t, string(raw), shell.Run(string(raw)), transcript(string(raw)))
	}
}

// R1: long ones of each kind.
func TestLongTexts(t *testing.T) {
	const many = 1 << 20
	long := strings.Repeat("x", many)
	plays(t, `
		> `+home+`
		= ok
		> put `+long+` {}
		= error 140
		> put a {`+long+`
		= error 63
		> put "`+long+`" {}
		= error 190
		> upsert a `+long+`
		= error 70 at 0
		> get `+long+`
		= error 140
		> scan `+long+` "" 1
		= rows 0
		> scan a `+long+` 1
		= rows 0
		> arm `+strings.Repeat("1", many)+`
		= error 190
		> print `+long+`
		= error 70 at 0
		> compile `+long+`
		= error 70 at 0
		> run {`+strings.Repeat("{", many)+`} new
		= error 63
		> run {`+strings.Repeat(`"`, many)+`} new
		= error 63
		> run {`+strings.Repeat(`"`, many+1)+`} new
		= error 190
		> run {"`+strings.Repeat(`\"`, many)+`"} new
		= error 63
		> run {`+long+` new
		= error 190
		> run {} `+long+`
		= error 70 at 0
		> `+long+`
		= error 190
		> #`+long+`
		> put a {n=1}
		= ok
		> crash `+strings.Repeat("1", many)+`
		= ok
		> store 64 4 20 128 4 2 115 `+long+`
		= error 63
		> `+home+`
		= ok`)
	if got := shell.Run(strings.Repeat("\n", many)); got != "" {
		t.Errorf("of empty lines the transcript has %d bytes", len(got))
	}
	if got := shell.Run(strings.Repeat(" \n", 1<<17)); got != strings.Repeat("error 190\n", 1<<17) {
		t.Errorf("of many wrong lines the transcript has %d bytes", len(got))
	}
	if got := shell.Run(home + "\n" + strings.Repeat("seq\n", 1<<17)); got != "ok\n"+strings.Repeat("seq 0\n", 1<<17) {
		t.Errorf("of many lines the transcript has %d bytes", len(got))
	}
	for _, line := range []string{long, "get " + long, "put a " + long, "run {" + long + "} ", "crash " + strings.Repeat("0", many)} {
		formed(t, line)
	}
	if e := shell.Check(long + "\n"); e != api.ErrLine {
		t.Errorf("Check of a long text with a line's end = %d", e)
	}
}
