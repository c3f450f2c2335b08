package shell_test

import (
	"strings"
	"testing"

	"arbor/shell"
)

// What each line answers (19.2), sentence by sentence.

// 19.1: lines that say nothing have no line in the transcript, all others just one, with a byte 10 behind it.
func TestLinesOfAScript(t *testing.T) {
	for _, x := range []struct{ script, want string }{
		{"", ""}, {"\n", ""}, {"\n\n\n", ""}, {"#", ""}, {"# sync\n", ""}, {"#\n\n#", ""},
		{"sync", "error 191\n"}, {"sync\n", "error 191\n"}, {"sync\n\n", "error 191\n"}, {"\nsync", "error 191\n"}, {"#\nsync\n#\nsync\n", "error 191\nerror 191\n"},
		{" ", "error 190\n"}, {" \n", "error 190\n"}, {" #\n", "error 190\n"}, {"sync\r\n", "error 190\n"}, {"\x00", "error 190\n"}, {"\n\r\n", "error 190\n"},
		{"nonsense\n\n#\nsync", "error 190\nerror 191\n"},
		{home + "\nprint \nprint", "ok\n\nerror 190\n"}, {home + "\nprint  \n", "ok\n\n"}, {home + "\nprint ", "ok\n\n"}, {home + "\nprint # new\nseq", "ok\n\nseq 0\n"},
	} {
		same(t, x.script, shell.Run(x.script), x.want)
		same(t, x.script, transcript(x.script), x.want)
	}
}

// 19.2: without a disk and a store every line of a form says 191 but store, and every other one 190.
func TestWithoutAStore(t *testing.T) {
	for _, line := range right {
		if silent(line) || strings.HasPrefix(line, "store") {
			continue
		}
		same(t, line, shell.Run(line), "error 191\n")
		// Behind a crash there is a disk, but no store: three lines ask for the disk alone.
		want := "error 191\n"
		switch word, _, _ := strings.Cut(line, " "); word {
		case "open":
			want = "open 0\n"
		case "arm", "crash":
			want = "ok\n"
		}
		same(t, line, shell.Run(home+"\ncrash -\n"+line), "ok\nok\n"+want)
		same(t, line, shell.Run(home+"\ncrash -\n"+line+" x"), "ok\nok\n"+transcriptOf(line+" x", want))
	}
}

// transcriptOf: want, or error 190 where the line is of no form.
func transcriptOf(line, want string) string {
	if _, _, ok := tell(line); !ok {
		return "error 190\n"
	}
	return want
}

// 19.2, store: the order of errors, and what is there behind one.
func TestStore(t *testing.T) {
	plays(t, `
		> store 63 4 20 128 3 2 115 n
		= error 40
		> store 64 4 20 3 4 2 115 n:int
		= error 40
		> store -64 4 20 128 4 2 115 n:int
		= error 40
		> store 99999999 99999999 99999999 99999999 99999999 99999999 99999999 n:int
		= error 40
		> store 1024 8 64 2048 4 2 115 n:int
		= error 40
		> store 64 4 20 128 3 2 115 n
		= error 63
		> store 64 4 20 128 3 2 115 n:int,n:int
		= error 60
		> store 64 4 20 128 3 2 115 `+`
		= error 63
		> store 64 4 20 128 3 2 115  n:int
		= error 63
		> store 64 4 20 128 3 2 115 n:int
		= error 170
		> store 64 4 20 128 4 1 115 n:int
		= error 170
		> store 64 4 20 128 4 2 114 n:int
		= error 170
		> store 64 4 20 128 2 4 115 n:int
		= error 170
		> store 64 4 20 128 115 2 4 n:int
		= error 170
		> store 64 1 20 128 4 2 115 n:int
		= error 170
		> open
		= error 191
		> arm 1
		= error 191
		> crash 1
		= error 191
		> seq
		= error 191
		> store 64 4 20 128 4 2 115 n:int
		= ok
		> put a {n=1}
		= ok
		> sync
		= ok
		> batch
		= ok
		> put b {n=1}
		= noted
		> store 64 4 20 128 4 2 115 tag:bytes
		= ok
		> apply
		= error 181
		> scan "" "" 9
		= rows 0
		> seq
		= seq 0
		> put a {n=1}
		= error 63
		> put a {tag="b"}
		= ok
		> get a
		= row {tag="b"}
		> batch
		= ok
		> store 63 4 20 128 4 2 115 n:int
		= error 40
		> get a
		= error 191
		> apply
		= error 191
		> open
		= error 191
		> arm 0
		= error 191
		> crash -
		= error 191`)
}

// 19.2, store: the seven numbers in their order: each store is one that another order would not make.
func TestNumbersOfAStore(t *testing.T) {
	plays(t, `
		> store 100 3 2 4 4 2 115 n:int
		= ok
		> audit
		= audit 0
		> store 4 64 4 20 4 2 115 n:int
		= error 40
		> store 1024 1 5 300 30 11 300 n:int
		= ok
		> store 1024 1 5 300 11 30 300 n:int
		= error 170
		> store 512 2 64 2040 64 2 115 n:int
		= error 170
		> store 1024 2 64 2040 64 2 115 n:int
		= ok
		> store 64 1 2 4 4 2 115 n:int
		= error 170
		> store 256 1 2 4 4 2 115 n:int
		= ok
		> put a {n=1}
		= error 30
		> mode
		= mode read only`)
}

// 19.2, store: a new disk is all zero and not armed, whatever the one before it was.
func TestStoreOnANewDisk(t *testing.T) {
	plays(t, `
		> `+home+`
		= ok
		> arm 0
		= ok
		> `+home+`
		= ok
		> put a {n=1}
		= ok
		> arm 0
		= ok
		> put a {n=1}
		= error 10
		> mode
		= mode dead
		> `+home+`
		= ok
		> mode
		= mode open
		> get a
		= none`)
}

// 19.2, open: the store is given up without any act, and what waits goes on waiting; a batch is forgotten.
func TestOpen(t *testing.T) {
	plays(t, `
		> `+home+`
		= ok
		> open
		= open 0
		> put a {n=1}
		= ok
		> put b {n=2}
		= ok
		> open
		= open 2
		> scan "" "" 9
		= rows 2 a {n=1} b {n=2}
		> batch
		= ok
		> put c {n=3}
		= noted
		> open
		= open 2
		> apply
		= error 181
		> put d {n=4}
		= ok
		> seq
		= seq 3
		> batch
		= ok
		> arm 0
		= ok
		> open
		= error 10
		> seq
		= error 191
		> batch
		= error 191
		> open
		= error 10
		> arm 9
		= error 10
		> crash -
		= ok
		> open
		= open 2
		> apply
		= error 181
		> get d
		= none`)
}

// 19.2, arm and crash: which of the waiting writes survive, the first one first; a crash forgets an open batch and takes the store away.
func TestArmAndCrash(t *testing.T) {
	plays(t, `
		> store 1024 1 2 40 4 2 115 n:int
		= ok
		> put a {n=1}
		= ok
		> crash 11
		= ok
		> seq
		= error 191
		> open
		= open 1
		> put b {n=2}
		= ok
		> crash 01
		= ok
		> open
		= open 2
		> put c {n=3}
		= ok
		> crash 10
		= ok
		> open
		= open 2
		> put c {n=3}
		= ok
		> crash 1
		= ok
		> crash 11111111
		= ok
		> open
		= open 2
		> arm -1
		= ok
		> put c {n=3}
		= ok
		> arm 1
		= ok
		> put d {n=4}
		= error 10
		> put d {n=x}
		= error 63
		> upsert d (
		= error 10
		> delete ""
		= error 10
		> get ""
		= error 10
		> scan a b -1
		= error 10
		> sync
		= error 10
		> checkpoint
		= error 10
		> seq
		= seq 3
		> mode
		= mode dead
		> audit
		= audit 0
		> print new
		= new
		> compile n = 1
		= ok
		> run none new
		= row {n=0}
		> batch
		= ok
		> put e {}
		= noted
		> apply
		= error 10
		> batch
		= ok
		> crash 111111111111
		= ok
		> batch
		= error 191
		> open
		= open 4
		> batch
		= ok
		> scan "" "" 9
		= rows 4 a {n=1} b {n=2} c {n=3} d {n=4}
		> arm 2
		= ok
		> arm 0
		= ok
		> checkpoint
		= error 10
		> crash -
		= ok
		> open
		= open 4`)
}

// 19.2, put, delete, upsert without a batch: the store's order of errors, and Compile's place.
func TestChanges(t *testing.T) {
	plays(t, `
		> `+home+`
		= ok
		> put a {n=1,tag="}"}
		= ok
		> put a {n=1} `+`
		= error 63
		> put a `+`
		= error 63
		> put "" {n}
		= error 63
		> put "" {}
		= error 140
		> put 0123456789abcdefg {}
		= error 140
		> put 0123456789abcdef {}
		= ok
		> delete ""
		= error 140
		> delete nobody
		= ok
		> delete 0123456789abcdef
		= ok
		> upsert "" (
		= error 140
		> upsert a (
		= error 80 at 0
		> upsert a n = "
		= error 74 at 4
		> upsert a n = 99999999999999999999
		= error 73 at 4
		> upsert a n $
		= error 72 at 2
		> upsert a n = `+"\xff"+`
		= error 71 at 4
		> upsert a `+strings.Repeat(" ", 257)+`
		= error 70 at 0
		> upsert a n = `+strings.Repeat("-", 12)+`n
		= error 81 at 0
		> upsert a `+strings.Repeat("new;", 33)+`
		= error 82 at 128
		> upsert a n = 1; x = 2
		= error 90 at 1
		> upsert a n = 1; n = 2; if here { n = tag }
		= error 91 at 3
		> upsert a n = 1; n = len(tag)
		= error 92 at 1
		> upsert a `+strings.Repeat(`tag = "01234567890123456789";`, 5)+`
		= error 120 at 0
		> get a
		= row {n=1,tag="}"}
		> upsert a `+`
		= ok
		> upsert a  n += 1 # more
		= ok
		> get a
		= row {n=2,tag="}"}
		> upsert "a" delete
		= ok
		> get "\x61"
		= none
		> seq
		= seq 7`)
}

// 19.2, batch, apply, forget.
func TestBatches(t *testing.T) {
	plays(t, `
		> `+home+`
		= ok
		> apply
		= error 181
		> forget
		= error 181
		> batch
		= ok
		> batch
		= error 181
		> put a {n=1}
		= noted
		> batch
		= error 181
		> put a {n=x}
		= error 63
		> put "" {n=x}
		= error 63
		> upsert a n += 1
		= noted
		> get a
		= none
		> seq
		= seq 0
		> apply
		= ok
		> apply
		= error 181
		> get a
		= row {n=2}
		> seq
		= seq 1
		> batch
		= ok
		> put b {n=1}
		= noted
		> delete a
		= noted
		> forget
		= ok
		> forget
		= error 181
		> scan "" "" 9
		= rows 1 a {n=2}
		> batch
		= ok
		> apply
		= error 181
		> apply
		= error 181
		> batch
		= ok
		> put b {n=1}
		= noted
		> upsert a n +
		= noted
		> delete ""
		= noted
		> apply
		= error 80
		> batch
		= ok
		> put "" {}
		= noted
		> upsert a n +
		= noted
		> apply
		= error 140
		> batch
		= ok
		> upsert a n = tag
		= noted
		> apply
		= error 91
		> get b
		= none
		> seq
		= seq 1`)
}

// 19.2: a ninth change is not noted, whatever it is, and the eight are done.
func TestFullBatches(t *testing.T) {
	plays(t, `
		> `+home+`
		= ok
		> batch
		= ok
		> upsert a new
		= noted
		> upsert a n += 1
		= noted
		> put b {}
		= noted
		> put b {m=1}
		= error 63
		> upsert a n += 2
		= noted
		> upsert a n += 4
		= noted
		> upsert a n += 8
		= noted
		> delete c
		= noted
		> put c {tag=""}
		= noted
		> put d {}
		= error 181
		> put d {n=x}
		= error 181
		> put d
		= error 190
		> delete a
		= error 181
		> upsert a (
		= error 181
		> batch
		= error 181
		> sync
		= ok
		> checkpoint
		= ok
		> mode
		= mode open
		> apply
		= ok
		> scan "" "" 9
		= rows 3 a {n=15} b {n=0} c {n=0,tag=""}
		> seq
		= seq 1
		> put d {}
		= ok
		> batch
		= ok
		> put e {}
		= noted
		> apply
		= ok`)
}

// 19.2, get, scan, seq, mode, audit.
func TestQuestions(t *testing.T) {
	plays(t, `
		> `+home+`
		= ok
		> get a
		= none
		> get ""
		= error 140
		> get 0123456789abcdefg
		= error 140
		> scan "" "" 0
		= rows 0
		> scan "" "" -1
		= error 1
		> scan "" "" -0
		= rows 0
		> put B.1 {}
		= ok
		> put "a b" {tag="\x00"}
		= ok
		> put "\n" {n=-1}
		= ok
		> put "a\x62c" {n=1}
		= ok
		> put "`+"\u00e9"+`" {n=2}
		= ok
		> put - {n=3}
		= ok
		> put "\"\\" {n=4,tag="\"\\"}
		= ok
		> scan "" "" 99999999
		= rows 7 "\x0a" {n=-1} "\"\\" {n=4,tag="\"\\"} - {n=3} B.1 {n=0} "a b" {n=0,tag="\x00"} abc {n=1} "\xc3\xa9" {n=2}
		> scan "" "" 1
		= rows 1 "\x0a" {n=-1}
		> scan "a " "" 2
		= rows 2 "a b" {n=0,tag="\x00"} abc {n=1}
		> scan B.1 B.1 9
		= rows 0
		> scan b a 9
		= rows 0
		> scan "a b" "a\x62c" 9
		= rows 1 "a b" {n=0,tag="\x00"}
		> scan 0123456789abcdefghijklmnop zzzzzzzzzzzzzzzzzzzzzzzzzz 9
		= rows 3 B.1 {n=0} "a b" {n=0,tag="\x00"} abc {n=1}
		> seq
		= seq 7
		> mode
		= mode open
		> audit
		= audit 0`)
}

// 19.2, print, compile, run.
func TestPrograms(t *testing.T) {
	plays(t, `
		> `+home+`
		= ok
		> print x = "\n"; if y { }
		= x = "\x0a"; if y { }
		> print n = 1 +
		= error 80 at 7
		> print `+strings.Repeat("x", 257)+`
		= error 70 at 0
		> print `+strings.Repeat("new;", 33)+`
		= error 82 at 128
		> compile x = 1
		= error 90 at 0
		> compile n = 1; n = tag
		= error 91 at 1
		> compile n +
		= error 80 at 2
		> compile `+`
		= ok
		> compile `+strings.Repeat(`tag = "01234567890123456789";`, 5)+`
		= error 120 at 0
		> run none `+`
		= none
		> run none new; n = 1
		= row {n=1}
		> run {} `+`
		= row {n=0}
		> run {n=1,tag="}"} tag = cat(tag ?? "", "\"")
		= row {n=1,tag="}\""}
		> run {tag="\"}"} n = len(tag ?? "")
		= row {n=2,tag="\"}"}
		> run {n} (
		= error 63
		> run {{} new
		= error 63
		> run {n=1 } new
		= error 63
		> run {n=1} n = tag
		= error 91 at 0
		> run {n=1} n = 1; (
		= error 80 at 7
		> run none n = 1; x = 1
		= error 90 at 1
		> run {n=1} delete
		= none
		> run none none
		= error 80 at 4
		> seq
		= seq 0
		> scan "" "" 9
		= rows 0`)
}
