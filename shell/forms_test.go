package shell_test

import (
	"strings"
	"testing"

	"arbor/api"
	"arbor/drill"
	"arbor/shell"
)

const home = "store 64 4 20 128 4 2 115 n:int,tag:bytes?"

// formed: 19.1 and 19.d: Check says of a text what the chapter's table says, and Run, without and with a store, answers it by error 190 just if Check refuses it.
func formed(t *testing.T, line string) {
	t.Helper()
	_, _, ok := tell(line)
	ok = ok || silent(line) && !strings.Contains(line, "\n")
	want := api.OK
	if !ok {
		want = api.ErrLine
	}
	if e := shell.Check(line); e != want {
		t.Fatalf("Check(%.200q) = %d, want %d", line, e, want)
	}
	if strings.Contains(line, "\n") {
		return
	}
	said := shell.Run(line)
	switch {
	case silent(line) && said != "", !silent(line) && (strings.Count(said, "\n") != 1 || !strings.HasSuffix(said, "\n")):
		t.Fatalf("Run(%.200q) = %q", line, said)
	case (said == "error 190\n") != (want == api.ErrLine):
		t.Fatalf("Check(%.200q) = %d, but Run says %q", line, want, said)
	}
}

// formedOnStore: likewise of a line behind others that made a store.
func formedOnStore(t *testing.T, line string) {
	t.Helper()
	formed(t, line)
	if strings.Contains(line, "\n") || silent(line) {
		return
	}
	said := shell.Run(home + "\n" + line)
	if refused := said == "ok\nerror 190\n"; refused != (shell.Check(line) == api.ErrLine) {
		t.Fatalf("Check(%.200q) = %d, but Run says %q", line, shell.Check(line), said)
	}
}

// args: of each kind, right ones and wrong ones.
var args = map[string][]string{
	"N": {"0", "-0", "1", "9", "10", "64", "12345678", "99999999", "-1", "-99999999",
		"", "-", "00", "01", "-01", "--1", "+1", "123456789", "-123456789", "100000000", "1.5", "0x1", "1e3", "a", "1a", "a1", "\"1\"", "1\t", "\t1", "1_0", "\xd9\xa1", "1-", "000000001", "99999999999999999999"},
	"KEY": {"a", "Z", "0", "_", ".", "-", "a.b-C_9", "--", "zZaA09", strings.Repeat("k", 16), strings.Repeat("k", 21), strings.Repeat("k", 5000), `""`, `" "`, `"a b"`, `"a"`, `"\x00"`, `"\xfF"`, `"\n\t\"\\"`, "\"\u00e9\u20ac\U0001f600\"", `"` + strings.Repeat("k", 20) + `"`, `"` + strings.Repeat(`\x41`, 20) + `"`, `"#"`,
		"", "k!", "a/b", "a:b", "a,b", "a+b", "a@b", "a[b", "a`b", "a{b", "a^b", "\u00e9", "\xff", "a\x00", "a\tb", `"`, `"a`, `a"`, `"a"b`, `"a""b"`, `a"b"`, `"\q"`, `"\x4"`, `"\x4g"`, `"\u00e9"`, `"\X41"`, "\"\xff\"", "\"\xc3\"", "\"\xed\xa0\x80\"", "\"\xf4\x90\x80\x80\"", "\"\xc0\x80\"", "\"\t\"", "\"\x7f\"", "\"\x00\"", `"` + strings.Repeat("k", 21) + `"`, "\"" + strings.Repeat("\u00e9", 10) + "k\"", "'a'", "`a`", `"a\`, `"a\"`, `"` + strings.Repeat("k", 5000) + `"`},
	"BITS": {"-", "0", "1", "01", "10110", strings.Repeat("01", 3000), "", "--", "-1", "1-", "2", "12", "0x1", "a", "true", "1,0", "\"1\"", "1\t"},
	"ROW": {"none", "{}", "{{}", "{{{}", `{n=1}`, `{tag="}"}`, `{tag="\"}"}`, `{tag="\\"}`, `{"}"}`, `{a b c}`, `{ }`, `{"` + strings.Repeat("}", 3000) + `"}`, `{\}`, `{""""}`, "{\xff\x00}", `{"\` + "\xc3\xa9" + `"}`, `{=}`, `{"a b"}`, `{"\""}`, `{none}`,
		"", "non", "nonex", "None", "none{}", "{", "}", "{}}", "{}x", "x{}", `{"}`, `{"\"}`, `{"\\\"}`, `{\"}`, `{"""}`, `{"`, `{"\`, "null", "-", `"none"`, "{}{}", `{"}" `},
	"REST": {"", " ", "  ", "x", "n += 1", "{n=1}", "n:int", "# no comment", "\"", "{", "}", "\x00\xff\t\r", " x ", strings.Repeat("y", 5000)},
}

// spread: each way to lay one of each kind's arguments behind the word, where the first one or two of each stand for all but one of them.
func spread(kinds []string, each func(args []string)) {
	list := make([]string, len(kinds))
	for odd := range max(len(kinds), 1) {
		var fill func(from int)
		fill = func(from int) {
			if from == len(kinds) {
				each(list)
				return
			}
			some := args[kinds[from]]
			if from != odd {
				some = some[:1+2/len(kinds)]
			}
			for _, list[from] = range some {
				fill(from + 1)
			}
		}
		fill(0)
	}
}

// 19.1: each form with each argument, right and wrong, with an argument too few and one too many, and with other bytes between two of them.
func TestFormsOfLines(t *testing.T) {
	lines := 0
	for form := range strings.SplitSeq(chapterForms, "\n") {
		words := strings.Split(form, " ")
		spread(words[1:], func(args []string) {
			line := strings.Join(append([]string{words[0]}, args...), " ")
			formed(t, line)
			lines++
			if len(line) > 100 {
				return
			}
			formed(t, line+" ")
			formed(t, line+" x")
			formed(t, " "+line)
			formed(t, line+"\n")
			formed(t, "#"+line)
			for i := range line {
				if line[i] == ' ' {
					formed(t, line[:i])
					formed(t, line[:i]+line[i+1:])
					formed(t, line[:i]+" "+line[i:])
					formed(t, line[:i]+"\t"+line[i+1:])
					formed(t, line[:i]+"\n"+line[i+1:])
				}
			}
		})
	}
	if lines < 1000 {
		t.Errorf("%d lines", lines)
	}
}

// right: some lines of each form.
var right = []string{"store 64 4 20 6 4 2 115 n:int", "store -0 -1 99999999 0 0 0 0 ", "put k {n=1}", `put "a b" `, "delete k", `delete "\x00"`, "upsert a.b n += 1", "batch", "apply", "forget", "get a", `get ""`, `scan a "\"" 10`, `scan "" "" -1`, "sync", "checkpoint", "seq", "mode", "audit", "open", "arm 0", "arm -12345678", "crash -", "crash 10", "print new", "compile x", "run none new", "run {} delete", `run {tag="\"}"} new`, "run {{} ", "# anything", ""}

// 19.1: words that are nearly those of commands.
func TestWords(t *testing.T) {
	for _, line := range right {
		word, behind, _ := strings.Cut(line, " ")
		for _, other := range []string{strings.ToUpper(word), word + "s", word + "\x00", "\x00" + word, word + "\t", "\t" + word, word + word, `"` + word + `"`, word + ":", "store", "put", "seq", "none", "{}", "-", "row", "rows", "ok", "quit", "help"} {
			formed(t, other)
			formed(t, other+" "+behind)
			formed(t, other+"  "+behind)
		}
		for i := range word {
			formed(t, line[i:])
			formed(t, line[:i])
		}
	}
}

// 19.1: lines that are one byte away from right ones.
func TestLinesNearRightOnes(t *testing.T) {
	for _, line := range right {
		for i := range len(line) + 1 {
			for _, b := range " \n\t#\"\\{}-+0189azAZ_.!n\x00\x7f" {
				formedOnStore(t, line[:i]+string(b)+line[i:])
				if i < len(line) {
					formedOnStore(t, line[:i]+string(b)+line[i+1:])
				}
			}
			formed(t, line[:i]+"\xff"+line[i:])
			formed(t, line[:i]+"\xc3\xa9"+line[i:])
			if i < len(line) {
				formedOnStore(t, line[:i]+line[i+1:])
			}
		}
	}
}

// 19.1: every byte as a key, in a key, in a literal, and behind a \ there.
func TestBytesOfKeys(t *testing.T) {
	for i := range 256 {
		b := string([]byte{byte(i)})
		for _, key := range []string{b, "a" + b, b + "a", "a" + b + "a", `"` + b + `"`, `"a` + b + `a"`, `"\` + b + `"`, `"\` + b + `a"`, `"\x` + b + b + `"`, `"\x4` + b + `"`} {
			formed(t, "get "+key)
			formed(t, "put "+key+" {}")
			formed(t, "scan a "+key+" 1")
		}
		formed(t, "arm "+b)
		formed(t, "arm 1"+b)
		formed(t, "arm -"+b)
		formed(t, "crash "+b)
		formed(t, "crash 1"+b)
		formed(t, b)
		formed(t, b+"sync")
		formed(t, "sync"+b)
	}
}

// 19.1: every short row of pieces behind run, and of those that keys are made of behind scan.
func TestShortRowsOfPieces(t *testing.T) {
	for length := range 7 {
		drill.Scripts([]string{"{", "}", `"`, `\`, " ", "x"}, length, func(pieces []string) {
			formed(t, "run {"+strings.Join(pieces, ""))
		})
	}
	for length := range 6 {
		drill.Scripts([]string{"a", `"`, " ", `\x41`, `\`, "1"}, length, func(pieces []string) {
			formed(t, "scan "+strings.Join(pieces, ""))
			formed(t, "put "+strings.Join(pieces, ""))
		})
	}
	for length := range 5 {
		drill.Scripts([]string{"none", "{}", " ", "run", "x"}, length, func(pieces []string) {
			formed(t, "run "+strings.Join(pieces, ""))
			formed(t, strings.Join(pieces, ""))
		})
	}
}

// 19.1: numbers of every length, with and without a -, and all of few digits.
func TestNumbersOfLines(t *testing.T) {
	for length := range 12 {
		for _, digit := range "019" {
			text := strings.Repeat(string(digit), length)
			formed(t, "arm "+text)
			formed(t, "arm -"+text)
			formed(t, "arm 1"+text)
			formed(t, "arm 0"+text)
		}
	}
	for length := range 5 {
		drill.Scripts([]string{"0", "1", "9", "-", " "}, length, func(pieces []string) {
			formed(t, "arm "+strings.Join(pieces, ""))
			formed(t, "store 1 2 3 "+strings.Join(pieces, "")+" 5 6 7 ")
		})
	}
}

// 19.1: a line with a byte 10 is none, wherever that stands and whatever the rest is.
func TestLinesWithALineEnd(t *testing.T) {
	for _, line := range right {
		for i := range len(line) + 1 {
			if e := shell.Check(line[:i] + "\n" + line[i:]); e != api.ErrLine {
				t.Fatalf("Check(%q) = %d", line[:i]+"\n"+line[i:], e)
			}
		}
	}
}
