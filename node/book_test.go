package node_test

import (
	"bytes"
	"maps"
	"slices"
	"strconv"
	"strings"
	"testing"

	"arbor/api"
	"arbor/drill"
	"arbor/fuse"
	"arbor/message"
	"arbor/node"
	"arbor/value"
)

// The chapter's words once more, by other means than the program: every two keys are compared, places are counted message by message, what happens to a key is gathered in maps, and what messages do is told by the stand-in for the machine.

const (
	noShape    = 0
	leafShape  = 1
	innerShape = 2
)

func bookShape(n api.Node) int {
	keys, waiting := keysOf(n.Entries), keysOfMessages(n.Msgs)
	switch {
	case n.Level == 1 && len(n.Pivots)+len(n.Kids)+len(n.Msgs) == 0 && everyTwo(keys, func(a, b string) bool { return a < b }):
		return leafShape
	case n.Level > 1 && len(n.Entries) == 0 && len(n.Kids) > 0 && len(n.Pivots)+1 == len(n.Kids) &&
		everyTwo(n.Pivots, func(a, b string) bool { return a < b }) && everyTwo(waiting, func(a, b string) bool { return a <= b }):
		return innerShape
	}
	return noShape
}

// everyTwo: is it so of each part and every later one?
func everyTwo(list []string, is func(a, b string) bool) bool {
	for i, a := range list {
		for _, b := range list[i+1:] {
			if !is(a, b) {
				return false
			}
		}
	}
	return true
}

func keysOf(es []api.Entry) []string {
	var keys []string
	for _, e := range es {
		keys = append(keys, e.Key)
	}
	return keys
}

func keysOfMessages(ms []api.Message) []string {
	var keys []string
	for _, m := range ms {
		keys = append(keys, m.Key)
	}
	return keys
}

func bookSound(s api.Schema, n api.Node) bool {
	if bookShape(n) == noShape || n.Level > 255 {
		return false
	}
	blocks := map[int]int{}
	for _, kid := range n.Kids {
		blocks[kid]++
		if blocks[kid] > 1 || kid < 0 || kid > 2047 {
			return false
		}
	}
	for _, key := range slices.Concat(keysOf(n.Entries), n.Pivots) {
		if len(key) == 0 || len(key) > 16 {
			return false
		}
	}
	for _, e := range n.Entries {
		if value.Check(s, e.Vals) != api.OK {
			return false
		}
	}
	return firstError(s, n.Msgs) == api.OK
}

func firstError(s api.Schema, ms []api.Message) api.Errno {
	for _, m := range ms {
		if e := message.Check(s, m); e != api.OK {
			return e
		}
	}
	return api.OK
}

func bookFits(s api.Schema, n api.Node) bool {
	if !bookSound(s, n) {
		return false
	}
	if bookShape(n) == leafShape {
		return len(n.Entries) <= 64
	}
	return len(n.Kids) >= 2 && len(n.Kids) <= 64 && len(n.Msgs) <= 65535
}

func bookMeasures(c api.Config) bool {
	return c.Fanout >= 4 && c.Fanout <= 64 && c.Leaf >= 2 && c.Leaf <= 64 && c.Buffer >= 115
}

func bookCheck(s api.Schema, c api.Config, n api.Node) api.Errno {
	switch {
	case value.CheckSchema(s) != api.OK:
		return api.ErrSchema
	case !bookMeasures(c):
		return api.ErrConfig
	case !bookFits(s, n), len(n.Entries) > c.Leaf, len(n.Kids) > c.Fanout, bookWaiting(s, n.Msgs) > c.Buffer:
		return api.ErrNode
	}
	return api.OK
}

func bookWaiting(s api.Schema, ms []api.Message) int {
	size := 0
	for _, m := range ms {
		b, _ := message.Encode(s, m)
		size += len(b)
	}
	return size
}

// bookBytes: of a node that fits a page.
func bookBytes(s api.Schema, n api.Node) []byte {
	var b []byte
	short := func(part []byte) { b = append(append(b, byte(len(part))), part...) }
	two := func(number int) { b = append(b, byte(number%256), byte(number/256)) }
	b = append(b, byte(n.Level), byte(len(n.Entries)+len(n.Kids)))
	for _, e := range n.Entries {
		record, _ := value.Encode(s, e.Vals)
		short([]byte(e.Key))
		short(record)
	}
	if n.Level == 1 {
		return b
	}
	for _, kid := range n.Kids {
		two(kid)
	}
	for _, pivot := range n.Pivots {
		short([]byte(pivot))
	}
	two(len(n.Msgs))
	for _, m := range n.Msgs {
		raw, _ := message.Encode(s, m)
		b = append(b, raw...)
	}
	return b
}

// bookNode: the node that some bytes are. To read behind their end panics.
func bookNode(s api.Schema, b []byte) (n api.Node, ok bool) {
	defer func() {
		if recover() != nil {
			n, ok = api.Node{}, false
		}
	}()
	at, b := 0, slices.Clip(slices.Clone(b))
	next := func(many int) []byte {
		at += many
		return b[at-many : at]
	}
	one := func() int { return int(next(1)[0]) }
	two := func() int { return one() + one()*256 }
	n.Level = one()
	many := one()
	for i := 0; i < many && n.Level == 1; i++ {
		key := string(next(one()))
		vals, e := value.Decode(s, next(one()))
		if e != api.OK {
			return api.Node{}, false
		}
		n.Entries = append(n.Entries, api.Entry{Key: key, Vals: vals})
	}
	if n.Level != 1 {
		for range many {
			n.Kids = append(n.Kids, two())
		}
		for range many - 1 {
			n.Pivots = append(n.Pivots, string(next(one())))
		}
		for range two() {
			m, taken, e := message.Decode(s, b[at:])
			if e != api.OK {
				return api.Node{}, false
			}
			next(taken)
			n.Msgs = append(n.Msgs, m)
		}
	}
	if at != len(b) || !bookFits(s, n) || !bytes.Equal(bookBytes(s, n), b) {
		return api.Node{}, false
	}
	return n, true
}

func bookChild(pivots []string, key string) int {
	return len(pivots) - len(slices.DeleteFunc(slices.Clone(pivots), func(pivot string) bool { return strings.Compare(pivot, key) <= 0 }))
}

func bookFullest(s api.Schema, n api.Node) int {
	best, most := 0, 0
	for kid := range n.Kids {
		var ms []api.Message
		for _, m := range n.Msgs {
			if bookChild(n.Pivots, m.Key) == kid {
				ms = append(ms, m)
			}
		}
		if size := bookWaiting(s, ms); size > most {
			best, most = kid, size
		}
	}
	return best
}

func bookAdd(s api.Schema, n api.Node, ms []api.Message) (api.Node, api.Errno) {
	switch {
	case value.CheckSchema(s) != api.OK:
		return api.Node{}, api.ErrSchema
	case !bookSound(s, n) || bookShape(n) != innerShape:
		return api.Node{}, api.ErrNode
	case firstError(s, ms) != api.OK:
		return api.Node{}, firstError(s, ms)
	}
	all, named := map[string][]api.Message{}, map[string]int{}
	for _, m := range slices.Concat(n.Msgs, ms) {
		all[m.Key] = append(all[m.Key], m)
	}
	for _, m := range ms {
		named[m.Key]++
	}
	out := api.Node{Level: n.Level, Pivots: n.Pivots, Kids: n.Kids}
	for _, key := range slices.Sorted(maps.Keys(all)) {
		list := all[key]
		if named[key] > 0 {
			list, _ = fuse.Fuse(s, 96, list...)
		}
		out.Msgs = append(out.Msgs, list...)
	}
	return out, api.OK
}

func bookApply(s api.Schema, n api.Node, ms []api.Message) (api.Node, api.Errno) {
	switch {
	case value.CheckSchema(s) != api.OK:
		return api.Node{}, api.ErrSchema
	case !bookSound(s, n) || bookShape(n) != leafShape:
		return api.Node{}, api.ErrNode
	case firstError(s, ms) != api.OK:
		return api.Node{}, firstError(s, ms)
	}
	rows := map[string]api.Row{}
	for _, e := range n.Entries {
		rows[e.Key] = api.Row{Here: true, Vals: e.Vals}
	}
	for _, m := range ms {
		rows[m.Key] = drill.PlayMessages(s, rows[m.Key], m)
	}
	out := api.Node{Level: 1}
	for _, key := range slices.Sorted(maps.Keys(rows)) {
		if rows[key].Here {
			out.Entries = append(out.Entries, api.Entry{Key: key, Vals: rows[key].Vals})
		}
	}
	return out, api.OK
}

func bookDraw(n api.Node, kid int) ([]api.Message, api.Node, api.Errno) {
	if kid < 0 || kid > len(n.Kids)-1 {
		return nil, api.Node{}, api.ErrArg
	}
	drawn, rest := []api.Message{}, n
	rest.Msgs = nil
	for _, m := range n.Msgs {
		if bookChild(n.Pivots, m.Key) == kid {
			drawn = append(drawn, m)
		} else {
			rest.Msgs = append(rest.Msgs, m)
		}
	}
	return drawn, rest, api.OK
}

func bookSplit(n api.Node, parts int) ([]api.Node, []string, api.Errno) {
	units := len(n.Entries) + len(n.Kids)
	switch {
	case bookShape(n) == noShape:
		return nil, nil, api.ErrNode
	case parts < 1 || parts > 1 && parts > units:
		return nil, nil, api.ErrArg
	}
	nodes, pivots, at := make([]api.Node, parts), []string{}, 0
	for i := range nodes {
		nodes[i].Level = n.Level
		for range (units + parts - 1 - i) / parts {
			first := len(nodes[i].Entries)+len(nodes[i].Kids) == 0
			pivot := ""
			if bookShape(n) == leafShape {
				nodes[i].Entries = append(nodes[i].Entries, n.Entries[at])
				pivot = n.Entries[at].Key
			} else {
				nodes[i].Kids = append(nodes[i].Kids, n.Kids[at])
				if at > 0 {
					pivot = n.Pivots[at-1]
				}
				if !first {
					nodes[i].Pivots = append(nodes[i].Pivots, pivot)
				}
			}
			if first && i > 0 {
				pivots = append(pivots, pivot)
			}
			at++
		}
	}
	for _, m := range n.Msgs {
		part := &nodes[bookChild(pivots, m.Key)]
		part.Msgs = append(part.Msgs, m)
	}
	return nodes, pivots, api.OK
}

func bookMerge(a api.Node, pivot string, b api.Node) (api.Node, api.Errno) {
	if a.Level != b.Level || bookShape(a) == noShape || bookShape(b) == noShape {
		return api.Node{}, api.ErrNode
	}
	for _, key := range slices.Concat(keysOf(a.Entries), a.Pivots, keysOfMessages(a.Msgs)) {
		if key >= pivot {
			return api.Node{}, api.ErrNode
		}
	}
	for _, key := range slices.Concat(keysOf(b.Entries), keysOfMessages(b.Msgs)) {
		if key < pivot {
			return api.Node{}, api.ErrNode
		}
	}
	for _, key := range b.Pivots {
		if key <= pivot {
			return api.Node{}, api.ErrNode
		}
	}
	out := api.Node{Level: a.Level, Entries: slices.Concat(a.Entries, b.Entries), Kids: slices.Concat(a.Kids, b.Kids), Msgs: slices.Concat(a.Msgs, b.Msgs)}
	out.Pivots = slices.Clone(a.Pivots)
	if a.Level > 1 {
		out.Pivots = append(out.Pivots, pivot)
	}
	out.Pivots = append(out.Pivots, b.Pivots...)
	return out, api.OK
}

func bookReplace(n api.Node, from, to int, kids []int, pivots []string) (api.Node, api.Errno) {
	if bookShape(n) != innerShape {
		return api.Node{}, api.ErrNode
	}
	if from < 0 || to <= from || to > len(n.Kids) || len(kids) == 0 || len(pivots) != len(kids)-1 {
		return api.Node{}, api.ErrArg
	}
	out := api.Node{Level: n.Level, Msgs: n.Msgs}
	for i, kid := range n.Kids {
		if i > 0 && (i <= from || i >= to) {
			out.Pivots = append(out.Pivots, n.Pivots[i-1])
		}
		if i < from || i >= to {
			out.Kids = append(out.Kids, kid)
		}
		if i == from {
			out.Kids, out.Pivots = append(out.Kids, kids...), append(out.Pivots, pivots...)
		}
	}
	if bookShape(out) == noShape {
		return api.Node{}, api.ErrNode
	}
	return out, api.OK
}

// sameNode: part by part.
func sameNode(a, b api.Node) bool {
	return a.Level == b.Level && slices.EqualFunc(a.Entries, b.Entries, sameEntry) && slices.Equal(a.Pivots, b.Pivots) && slices.Equal(a.Kids, b.Kids) && slices.EqualFunc(a.Msgs, b.Msgs, drill.SameMessage)
}

func sameEntry(a, b api.Entry) bool {
	return a.Key == b.Key && slices.Equal(a.Vals, b.Vals)
}

// shown: a node in short, the first eight of each list.
func shown(s api.Schema, n api.Node) string {
	text := strconv.Itoa(n.Level)
	for _, e := range n.Entries[:min(len(n.Entries), 8)] {
		text += " | " + strconv.Quote(e.Key) + drill.ShownRow(s, api.Row{Here: true, Vals: e.Vals})
	}
	text += " kids"
	for _, kid := range n.Kids[:min(len(n.Kids), 8)] {
		text += " " + strconv.Itoa(kid)
	}
	text += " pivots"
	for _, pivot := range n.Pivots[:min(len(n.Pivots), 8)] {
		text += " " + strconv.Quote(pivot)
	}
	return text + " | " + drill.ShownMessages(s, n.Msgs)
}

func shownNodes(s api.Schema, nodes []api.Node) string {
	text := ""
	for _, n := range nodes {
		text += shown(s, n) + "\n"
	}
	return text
}

// leafOf: of texts as a{n=1}.
func leafOf(s api.Schema, entries ...string) api.Node {
	n := api.Node{Level: 1}
	for _, text := range entries {
		key, record, _ := strings.Cut(text, "{")
		n.Entries = append(n.Entries, api.Entry{Key: key, Vals: drill.RowOf(s, "{"+record).Vals})
	}
	return n
}

// innerOf: of level 2, of kids with the pivots between them, as 1 b 2 d 3, and messages: k+5 adds 5 to the field 0, k:=5 puts {n=5}, k- deletes.
func innerOf(s api.Schema, kids string, ms ...string) api.Node {
	n := api.Node{Level: 2, Msgs: messagesOf(s, ms...)}
	for i, word := range strings.Fields(kids) {
		if i%2 == 1 {
			n.Pivots = append(n.Pivots, word)
			continue
		}
		kid, err := strconv.Atoi(word)
		if err != nil {
			panic(err)
		}
		n.Kids = append(n.Kids, kid)
	}
	return n
}

func messagesOf(s api.Schema, texts ...string) []api.Message {
	var ms []api.Message
	for _, text := range texts {
		key, add, isAdd := strings.Cut(text, "+")
		put, number, isPut := strings.Cut(text, ":=")
		switch {
		case isAdd:
			ms = append(ms, drill.MessageOf(s, "upsert "+key+" push "+add+"; addto 0"))
		case isPut:
			ms = append(ms, drill.MessageOf(s, "put "+put+" {n="+number+"}"))
		default:
			ms = append(ms, drill.MessageOf(s, "delete "+strings.TrimSuffix(text, "-")))
		}
	}
	return ms
}

func wantNode(t *testing.T, s api.Schema, call string, got api.Node, e api.Errno, want api.Node, wantE api.Errno) {
	t.Helper()
	if e != wantE || !sameNode(got, want) {
		t.Fatalf("%s =\n%s, %d, want\n%s, %d", call, shown(s, got), e, shown(s, want), wantE)
	}
}

// wantBytes: of a node, whether it fits a page or not; what has bytes comes back from them.
func wantBytes(t *testing.T, s api.Schema, n api.Node) api.Errno {
	t.Helper()
	var want []byte
	wantE := api.ErrNode
	switch {
	case value.CheckSchema(s) != api.OK:
		wantE = api.ErrSchema
	case bookFits(s, n):
		want, wantE = bookBytes(s, n), api.OK
	}
	b, e := node.Encode(s, n)
	if e != wantE || !bytes.Equal(b, want) {
		t.Fatalf("Encode(%s) = % x, %d, want % x, %d", shown(s, n), b, e, want, wantE)
	}
	if e == api.OK {
		back, e := node.Decode(s, b)
		wantNode(t, s, "Decode of Encode", back, e, n, api.OK)
	}
	return e
}

func wantDecode(t *testing.T, s api.Schema, b []byte) api.Errno {
	t.Helper()
	wantE := api.OK
	want, ok := bookNode(s, b)
	if !ok {
		wantE = api.ErrNode
	}
	got, e := node.Decode(s, b)
	if e != wantE || !sameNode(got, want) {
		t.Fatalf("Decode(% x) = %s, %d, want %s, %d", b, shown(s, got), e, shown(s, want), wantE)
	}
	return e
}

func wantCheck(t *testing.T, s api.Schema, c api.Config, n api.Node) api.Errno {
	t.Helper()
	e, want := node.Check(s, c, n), bookCheck(s, c, n)
	if e != want {
		t.Fatalf("Check(%v, %s) = %d, want %d", c, shown(s, n), e, want)
	}
	return e
}

// wantPlaces: of whatever node.
func wantPlaces(t *testing.T, s api.Schema, n api.Node) {
	t.Helper()
	for _, key := range slices.Concat([]string{"", "a", "b", "bb", "c", "zz", "\xff"}, n.Pivots, keysOfMessages(n.Msgs)) {
		if got, want := node.Child(n, key), bookChild(n.Pivots, key); got != want {
			t.Fatalf("Child(%s, %q) = %d, want %d", shown(s, n), key, got, want)
		}
	}
	if got, want := node.Waiting(s, n), bookWaiting(s, n.Msgs); got != want {
		t.Fatalf("Waiting(%s) = %d, want %d", shown(s, n), got, want)
	}
	if got, want := node.Fullest(s, n), bookFullest(s, n); got != want {
		t.Fatalf("Fullest(%s) = %d, want %d", shown(s, n), got, want)
	}
}

func wantAdd(t *testing.T, s api.Schema, n api.Node, ms ...api.Message) (api.Node, api.Errno) {
	t.Helper()
	want, wantE := bookAdd(s, n, ms)
	got, e := node.Add(s, n, ms...)
	wantNode(t, s, "Add("+shown(s, n)+", "+drill.ShownMessages(s, ms)+")", got, e, want, wantE)
	return got, e
}

func wantApply(t *testing.T, s api.Schema, n api.Node, ms ...api.Message) (api.Node, api.Errno) {
	t.Helper()
	want, wantE := bookApply(s, n, ms)
	got, e := node.Apply(s, n, ms...)
	wantNode(t, s, "Apply("+shown(s, n)+", "+drill.ShownMessages(s, ms)+")", got, e, want, wantE)
	return got, e
}

func wantDraw(t *testing.T, s api.Schema, n api.Node, kid int) {
	t.Helper()
	ms, rest, e := node.Draw(n, kid)
	wantMs, want, wantE := bookDraw(n, kid)
	call := "Draw(" + shown(s, n) + ", " + strconv.Itoa(kid) + ")"
	wantNode(t, s, call, rest, e, want, wantE)
	if !slices.EqualFunc(ms, wantMs, drill.SameMessage) {
		t.Fatalf("%s = %s, want %s", call, drill.ShownMessages(s, ms), drill.ShownMessages(s, wantMs))
	}
}

func wantSplit(t *testing.T, s api.Schema, n api.Node, parts int) ([]api.Node, []string, api.Errno) {
	t.Helper()
	nodes, pivots, e := node.Split(n, parts)
	wantNodes, wantPivots, wantE := bookSplit(n, parts)
	if e != wantE || !slices.EqualFunc(nodes, wantNodes, sameNode) || !slices.Equal(pivots, wantPivots) {
		t.Fatalf("Split(%s, %d) =\n%s%q, %d, want\n%s%q, %d", shown(s, n), parts, shownNodes(s, nodes), pivots, e, shownNodes(s, wantNodes), wantPivots, wantE)
	}
	return nodes, pivots, e
}

func wantMerge(t *testing.T, s api.Schema, a api.Node, pivot string, b api.Node) (api.Node, api.Errno) {
	t.Helper()
	got, e := node.Merge(a, pivot, b)
	want, wantE := bookMerge(a, pivot, b)
	wantNode(t, s, "Merge("+shown(s, a)+", "+strconv.Quote(pivot)+", "+shown(s, b)+")", got, e, want, wantE)
	return got, e
}

func wantReplace(t *testing.T, s api.Schema, n api.Node, from, to int, kids []int, pivots []string) (api.Node, api.Errno) {
	t.Helper()
	got, e := node.Replace(n, from, to, kids, pivots)
	want, wantE := bookReplace(n, from, to, kids, pivots)
	if e != wantE || !sameNode(got, want) {
		t.Fatalf("Replace(%s, %d, %d, %v, %q) = %s, %d, want %s, %d", shown(s, n), from, to, kids, pivots, shown(s, got), e, shown(s, want), wantE)
	}
	return got, e
}
