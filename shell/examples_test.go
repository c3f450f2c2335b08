package shell_test

import (
	"strings"
	"testing"

	"arbor/shell"
)

// plays: a dialogue: each line of a script behind "> ", what the transcript says to it behind "= " in the next line; a line that says nothing has none. (Blanks ahead of the two do not count.)
func plays(t *testing.T, dialogue string) {
	t.Helper()
	script, want := "", ""
	for line := range strings.SplitSeq(dialogue, "\n") {
		line = strings.TrimLeft(line, "\t ")
		if text, ok := strings.CutPrefix(line, "> "); ok {
			script += text + "\n"
		} else if text, ok := strings.CutPrefix(line, "= "); ok {
			want += text + "\n"
		} else if line != "" {
			t.Fatalf("no line of a dialogue: %q", line)
		}
	}
	same(t, script, shell.Run(script), want)
	same(t, script, transcript(script), want)
}

// same: are two transcripts of a script alike?
func same(t *testing.T, script, got, want string) {
	t.Helper()
	if got == want {
		return
	}
	var said []string
	for line := range strings.SplitSeq(script, "\n") {
		if !silent(line) {
			said = append(said, line)
		}
	}
	g, w := strings.Split(got, "\n"), strings.Split(want, "\n")
	for i := range min(len(g), len(w), len(said)) {
		if g[i] != w[i] {
			t.Fatalf("line %d, %.300q, says %.300q, want %.300q; ahead of it stand\n%s", i, said[i], g[i], w[i], strings.Join(said[max(0, i-20):i], "\n"))
		}
	}
	t.Fatalf("%d lines, want %d, of %d that say something", len(g)-1, len(w)-1, len(said))
}

// The examples 1 to 8 and 10 of DOC.md, as one script.
func TestExamplesOfTheWhole(t *testing.T) {
	plays(t, `
        > store 64 4 20 128 4 2 115 n:int,tag:bytes?
        = ok
        > upsert a new; n += 5
        = ok
        > upsert a n += 7; tag = "x"
        = ok
        > get a
        = row {n=12,tag="x"}
        > upsert b n += 1
        = ok
        > get b
        = none
        > upsert a n = tag
        = error 91 at 0
        > upsert a n = len(tag)
        = error 92 at 0
        > upsert a n +
        = error 80 at 2
        > get a
        = row {n=12,tag="x"}
        > upsert a if has tag and len(tag ?? "") < 3 { tag = cat(tag ?? "", "y") } else { clear tag }
        = ok
        > upsert a n = 9223372036854775807 + n
        = ok
        > get a
        = row {n=-9223372036854775797,tag="xy"}
        > put c {n=3}
        = ok
        > scan "" "" 10
        = rows 2 a {n=-9223372036854775797,tag="xy"} c {n=3}
        > scan b c 10
        = rows 0
        > batch
        = ok
        > delete a
        = noted
        > put d {n=4}
        = noted
        > apply
        = ok
        > seq
        = seq 7
        > sync
        = ok
        > put e {n=5}
        = ok
        > crash -
        = ok
        > open
        = open 7
        > get e
        = none
        > get d
        = row {n=4}
        > sync
        = ok
        > arm 0
        = ok
        > put f {n=6}
        = error 10
        > get d
        = error 10
        > crash 1
        = ok
        > open
        = open 7
        > run {n=1} n *= 2
        = error 80 at 2
        > run {n=1} if n > 0 { delete }
        = none
        > print n+=1;if here{n=n*2}
        = n += 1; if here { n = n * 2 }`)
}

// Example 9 of DOC.md: behind error 30 every put says error 180, every get what it said before.
func TestExampleOfAFullStore(t *testing.T) {
	script := "store 64 4 20 6 4 2 115 n:int\n"
	for i := range 60 {
		script += "put k" + strings.Repeat("x", i%13) + string(rune('a'+i%26)) + " {n=1}\nget ka\n"
	}
	script += "scan \"\" \"\" 100\nmode\nput z {n=1}\ndelete ka\nupsert ka new\nput z {n=x}\nupsert \"\" (\nsync\ncheckpoint\nget ka\nbatch\nput z {}\napply\nopen\nmode\nget ka\nput ka {n=2}\nget ka\n"
	said := strings.Split(shell.Run(script), "\n")
	same(t, script, shell.Run(script), transcript(script))
	full, accepted := false, 0
	for i := 1; i < 121; i += 2 {
		switch {
		case said[i] == "ok" && !full:
			accepted++
		case said[i] == "error 30" && !full:
			full = true
		case said[i] != "error 180" || !full:
			t.Fatalf("put number %d says %q", i/2, said[i])
		}
		if said[i+1] != "row {n=1}" {
			t.Fatalf("behind put number %d ka is %q", i/2, said[i+1])
		}
	}
	if !full || accepted == 0 {
		t.Fatalf("%d were accepted, full: %v", accepted, full)
	}
	if !strings.HasPrefix(said[121], "rows ") {
		t.Errorf("a full store's scan says %q", said[121])
	}
	want := "mode read only|error 180|error 180|error 180|error 63|error 180|ok|ok|row {n=1}|ok|noted|error 180|open|mode open|row {n=1}|ok|row {n=2}"
	got := strings.Join(said[122:len(said)-1], "|")
	if at := strings.Index(got, "|open "); at >= 0 {
		behind := got[at+6:]
		got = got[:at+5] + behind[strings.Index(behind, "|"):]
	}
	if got != want {
		t.Errorf("a full store says %q, want %q", got, want)
	}
}
