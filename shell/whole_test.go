package shell_test

import (
	"fmt"
	"strconv"
	"strings"
	"testing"

	"arbor/api"
	"arbor/drill"
	"arbor/lower"
	"arbor/meaning"
	"arbor/message"
	"arbor/shell"
	"arbor/value"
)

// W6: a transcript held against what W1 to W4 promise, without a store: against the abstract map that the lines' changes make by the meaning of their programs.

// witness: what is known of the store behind some lines of a script, by what the transcript said.
type witness struct {
	t      *testing.T
	s      api.Schema
	roomy  bool                 // no call is refused for want of blocks
	maps   []map[string]api.Row // behind the first calls that were accepted
	last   map[string]api.Row   // behind the call in which the power went, or nil
	synced int                  // so many calls are durable
	loss   bool                 // a crash may have lost calls that are not
	armed  bool
	dead   bool
	closed bool
	full   bool
	open   bool // a batch
	batch  []api.Change
}

// attend: goes through a script and its transcript.
func attend(t *testing.T, s api.Schema, roomy bool, script, said string) {
	t.Helper()
	lines := strings.Split(strings.TrimSuffix(script, "\n"), "\n")
	w := &witness{t: t, s: s, roomy: roomy, maps: []map[string]api.Row{{}}}
	if !strings.HasPrefix(said, "ok\n") {
		t.Fatalf("%s says %q", lines[0], said)
	}
	said = said[3:]
	for i, line := range lines[1:] {
		if silent(line) {
			continue
		}
		var answer string
		answer, said, _ = strings.Cut(said, "\n")
		if wrong := w.hear(line, answer); wrong != "" {
			t.Fatalf("line %d, %q, says %q: %s; ahead of it stand\n%s", i+1, line, answer, wrong, strings.Join(lines[max(0, i-20):i+1], "\n"))
		}
	}
	if said != "" {
		t.Fatalf("the transcript has %q behind the last line", said)
	}
}

func (w *witness) now() map[string]api.Row {
	return w.maps[len(w.maps)-1]
}

// wants: what is wrong with an answer of which there can be just one.
func wants(answer, want string) string {
	if answer != want {
		return fmt.Sprintf("want %.300q", want)
	}
	return ""
}

// hear: what is wrong with what the transcript says to a line.
func (w *witness) hear(line, answer string) string {
	word, args, ok := tell(line)
	switch {
	case !ok:
		return wants(answer, "error 190")
	case word == "crash":
		w.loss, w.dead, w.armed, w.closed, w.open, w.batch = true, false, false, true, false, nil
		return wants(answer, "ok")
	case word == "open":
		return w.opened(answer)
	case word == "arm" && w.dead:
		return wants(answer, "error 10")
	case word == "arm":
		w.armed = numberOf(args[0]) >= 0
		return wants(answer, "ok")
	case w.closed:
		return wants(answer, "error 191")
	}
	switch word {
	case "put", "delete", "upsert":
		return w.change(word, args, answer)
	case "batch", "apply", "forget":
		return w.ofBatch(word, answer)
	case "sync", "checkpoint":
		if w.loses(answer) {
			return ""
		}
		w.synced = len(w.maps) - 1
		return wants(answer, "ok")
	}
	return wants(answer, w.ask(word, args))
}

// loses: does the line say, as it may, that the power is gone or went?
func (w *witness) loses(answer string) bool {
	if answer != "error 10" || !w.dead && !w.armed {
		return false
	}
	w.dead = true
	return true
}

// opened: W2: some first of the calls, and all those that were durable; without a crash all of them.
func (w *witness) opened(answer string) string {
	w.open, w.batch, w.full = false, nil, false
	if w.loses(answer) {
		w.closed = true
		return ""
	}
	if w.last != nil {
		w.maps = append(w.maps, w.last)
	}
	seq, err := strconv.Atoi(strings.TrimPrefix(answer, "open "))
	switch most := len(w.maps) - 1; {
	case w.dead:
		return "the disk is dead"
	case err != nil || answer != fmt.Sprintf("open %d", seq):
		return "no answer of open"
	case seq < w.synced || seq > most:
		return fmt.Sprintf("want a number from %d to %d", w.synced, most)
	case !w.loss && seq != most:
		return fmt.Sprintf("nothing was lost: want %d", most)
	}
	w.maps, w.last, w.synced, w.loss, w.closed = w.maps[:seq+1], nil, seq, false, false
	return ""
}

func (w *witness) change(word string, args []string, answer string) string {
	if w.open && len(w.batch) == api.MaxBatch {
		return wants(answer, "error 181")
	}
	c := api.Change{Kind: api.MDelete, Key: keyOf(args[0])}
	switch word {
	case "put":
		vals, e := value.Parse(w.s, args[1])
		if e != api.OK {
			return wants(answer, told(e))
		}
		c = api.Change{Kind: api.MPut, Key: c.Key, Vals: vals}
	case "upsert":
		c = api.Change{Kind: api.MUpsert, Key: c.Key, Src: args[1]}
	}
	if w.open {
		w.batch = append(w.batch, c)
		return wants(answer, "noted")
	}
	return w.call(answer, true, c)
}

func (w *witness) ofBatch(word, answer string) string {
	if w.open == (word == "batch") {
		return wants(answer, "error 181")
	}
	batch := w.batch
	w.open, w.batch = word == "batch", nil
	if word == "apply" {
		return w.call(answer, false, batch...)
	}
	return wants(answer, "ok")
}

// call: W3: the changes are accepted, or refused as they must be.
func (w *witness) call(answer string, places bool, cs ...api.Change) string {
	switch {
	case w.dead:
		return wants(answer, "error 10")
	case w.full:
		return wants(answer, "error 180")
	case len(cs) == 0:
		return wants(answer, "error 181")
	}
	for _, c := range cs {
		if e := message.CheckKey(c.Key); e != api.OK {
			return wants(answer, told(e))
		}
		if c.Kind != api.MUpsert {
			continue
		}
		if _, e, at := lower.Compile(w.s, c.Src); e != api.OK && places {
			return wants(answer, toldAt(e, at))
		} else if e != api.OK {
			return wants(answer, told(e))
		}
	}
	behind := drill.PlayChanges(w.s, w.now(), cs...)
	if w.loses(answer) {
		w.last = behind
		return ""
	}
	if answer == "error 30" && !w.roomy {
		w.full = true
		return ""
	}
	w.maps = append(w.maps, behind)
	return wants(answer, "ok")
}

// ask: what a question is answered by.
func (w *witness) ask(word string, args []string) string {
	switch word {
	case "get":
		return w.get(keyOf(args[0]))
	case "scan":
		limit := numberOf(args[2])
		if w.dead {
			return "error 10"
		}
		if limit < 0 {
			return "error 1"
		}
		list := drill.EntriesOf(w.now(), keyOf(args[0]), keyOf(args[1]))
		return tellEntries(w.s, list[:min(limit, len(list))])
	case "seq":
		return fmt.Sprintf("seq %d", len(w.maps)-1)
	case "audit":
		return "audit 0"
	case "print":
		return tellProgram(args[0])
	case "compile":
		if _, e, at := lower.Compile(w.s, args[0]); e != api.OK {
			return toldAt(e, at)
		}
		return "ok"
	case "run":
		return tellRun(w.s, args[0], args[1], func(src string, row api.Row) (api.Row, api.Errno) {
			return meaning.Run(w.s, drill.ProgramOf(src), row)
		})
	}
	return w.mode()
}

func (w *witness) get(key string) string {
	if w.dead {
		return "error 10"
	}
	if e := message.CheckKey(key); e != api.OK {
		return told(e)
	}
	return tellRow(w.s, w.now()[key], api.OK)
}

func (w *witness) mode() string {
	switch {
	case w.dead:
		return "mode dead"
	case w.full:
		return "mode read only"
	}
	return "mode open"
}

// W6: long scripts, where blocks run out and power goes too.
func TestWhatTheWholePromises(t *testing.T) {
	eachScript(t, 1905, 500, func(m maker, roomy bool, script string) {
		attend(t, m.Schema, roomy, script, shell.Run(script))
	})
}
