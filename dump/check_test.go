package dump_test

import (
	"bytes"
	"slices"
	"strconv"
	"strings"
	"testing"

	"arbor/api"
	"arbor/drill"
	"arbor/dump"
	"arbor/value"
)

// grouped: the parts of a small dump, of records of n:int?,tag:bytes, with so many entries in each frame. Each takes 18 bytes, and a frame has room for 145.
func grouped(many ...int) []part {
	parts, number := []part{headOf("n:int?,tag:bytes", 7)}, 0
	for _, entries := range many {
		body := ""
		for range entries {
			body += "\x0a" + strconv.Itoa(1000000000+number) + "\x06\x01\x00\x03abc"
			number++
		}
		parts = append(parts, part{'E', body})
	}
	return tailed(number, parts...)
}

// three: .. as they must be, of three frames of entries, the last one not full.
func three() []part {
	return grouped(8, 8, 4)
}

// P22.2: what the book lays by hand is a dump.
func TestCheckOfWholeDumps(t *testing.T) {
	parts := three()
	info, e := dump.Check(laid(parts, 160), 160)
	if e != api.OK || !sameInfo(info, api.DumpInfo{Schema: drill.SchemaOf("n:int?,tag:bytes"), Seq: 7, Entries: 20}) || len(parts) != 5 {
		t.Fatalf("Check of %d frames = %v, %d", len(parts), info, e)
	}
	s := drill.SchemaOf("n:int,m:int?")
	for what, list := range map[string][]api.Entry{
		"none": nil, "one": entriesOf(s, "a {n=5}"), "two": entriesOf(s, "a {n=5}", "b {n=6,m=-7}"),
		"a key and one that it begins": entriesOf(s, "a {n=5}", "aa {n=5}", "ab {n=5}"),
		"the longest key":              entriesOf(s, "0123456789abcdef {n=9223372036854775807,m=-9223372036854775808}"),
		"keys of any bytes":            entriesOf(s, "\x00 {n=1}", "\x00\x00 {n=2}", "\x80 {n=3}", "\xff {n=4}", strings.Repeat("\xff", 16)+" {n=5}"),
	} {
		for _, size := range sizes() {
			for _, seq := range []uint64{0, 1, 1 << 40, 1<<64 - 1} {
				if !checks(t, what, bookDump(s, seq, list, size), size) {
					t.Fatalf("%s: the book takes it for no dump", what)
				}
			}
		}
	}
}

// P22.2: a size that may not be is told ahead of all else.
func TestCheckOfWrongSizes(t *testing.T) {
	b := laid(three(), 160)
	for _, size := range wrongSizes() {
		for _, bytes := range [][]byte{nil, b, b[:160], make([]byte, 160), make([]byte, 1<<20)} {
			if info, e := dump.Check(bytes, size); e != api.ErrArg || !sameInfo(info, api.DumpInfo{}) {
				t.Errorf("Check(%d bytes, %d) = %v, %d", len(bytes), size, info, e)
			}
			if list := listOf(bytes, size, -1); len(list) > 0 {
				t.Errorf("Entries(%d bytes, %d) gives %v", len(bytes), size, list)
			}
		}
	}
}

// P22.2: bytes that are no frames, and frames that are too few.
func TestCheckOfNoFrames(t *testing.T) {
	parts := three()
	b := laid(parts, 160)
	tail := laid(parts, 160)[4*160:]
	for what, b := range map[string][]byte{
		"nothing": nil, "a byte": {'H'}, "zeros": make([]byte, 320), "many zeros": make([]byte, 1<<20), "ones": bytes.Repeat([]byte{255}, 480), "less than a frame": b[:159], "a head": b[:160], "a tail": tail, "two heads": laid([]part{parts[0], parts[0]}, 160),
		"a head and a frame of entries": b[:320], "entries alone": laid(parts[1:4], 160), "without a head": laid(parts[1:], 160), "without a head, numbered on": b[160:], "without a tail": b[:640],
	} {
		refused(t, what, b, 160)
	}
	for _, size := range sizes()[1:] {
		refused(t, "another size", b, size)
	}
}

// fault: what is done to the parts of a dump, so that it is none any more though all sums are right.
type fault struct {
	what string
	do   func(parts []part) []part
}

// bodyOf: the body of a part becomes another one.
func bodyOf(number int, spoil func(body string) string) func([]part) []part {
	return func(parts []part) []part {
		parts[number].body = spoil(parts[number].body)
		return parts
	}
}

func to(body string) func(string) string {
	return func(string) string { return body }
}

func partFaults() []fault {
	return []fault{
		{"a frame of entries less", func(p []part) []part { return slices.Delete(p, 1, 2) }},
		{"the last frame of entries less", func(p []part) []part { return slices.Delete(p, 3, 4) }},
		{"a frame of entries twice", func(p []part) []part { return slices.Insert(p, 2, p[1]) }},
		{"frames in another order", func(p []part) []part { p[1], p[2] = p[2], p[1]; return p }},
		{"the last frames in another order", func(p []part) []part { p[2], p[3] = p[3], p[2]; return p }},
		{"the head twice", func(p []part) []part { return slices.Insert(p, 0, p[0]) }},
		{"another head behind the first entries", func(p []part) []part { return slices.Insert(p, 2, p[0]) }},
		{"the tail twice", func(p []part) []part { return append(p, p[len(p)-1]) }},
		{"a tail amidst", func(p []part) []part { return slices.Insert(p, 2, tailOf(8, p[:2])) }},
		{"a frame of entries without any", func(p []part) []part { return slices.Insert(p, 1, part{'E', ""}) }},
		{"a frame without entries at the end", func(p []part) []part { return slices.Insert(p, 4, part{'E', ""}) }},
		{"a head of another kind", func(p []part) []part { p[0].kind = 'h'; return p }},
		{"a head of the kind of entries", func(p []part) []part { p[0].kind = 'E'; return p }},
		{"entries of another kind", func(p []part) []part { p[2].kind = 'L'; return p }},
		{"entries of the head's kind", func(p []part) []part { p[1].kind = 'H'; return p }},
		{"a tail of another kind", func(p []part) []part { p[4].kind = 0; return p }},
		{"a tail of the kind of entries", func(p []part) []part { p[4].kind = 'E'; return p }},
	}
}

func bodyFaults() []fault {
	return []fault{
		{"a head without a schema", bodyOf(0, func(b string) string { return b[:8] })},
		{"a head of seven bytes", bodyOf(0, func(b string) string { return b[:7] })},
		{"a head without bytes", bodyOf(0, to(""))},
		{"a text that is no schema", bodyOf(0, func(b string) string { return b + "," })},
		{"a schema that may not be", bodyOf(0, func(b string) string { return b + ",n:bool" })},
		{"a schema with a blank", bodyOf(0, func(b string) string { return strings.Replace(b, ",", ", ", 1) })},
		{"another schema", bodyOf(0, func(b string) string { return b + ",on:bool" })},
		{"a schema with a zero behind it", bodyOf(0, func(b string) string { return b + "\x00" })},
		{"a key below the one ahead of it", bodyOf(2, func(b string) string { return strings.Replace(b, "1000000009", "1000000007", 1) })},
		{"a key that is twice there", bodyOf(2, func(b string) string { return strings.Replace(b, "1000000009", "1000000008", 1) })},
		{"a key that is twice there, in two frames", bodyOf(2, func(b string) string { return strings.Replace(b, "1000000008", "1000000007", 1) })},
		{"a first key without bytes", bodyOf(1, func(b string) string { return strings.Replace(b, "\x0a1000000000", "\x00", 1) })},
		{"a later key without bytes", bodyOf(3, func(b string) string { return strings.Replace(b, "\x0a1000000017", "\x00", 1) })},
		{"a key of seventeen bytes", bodyOf(3, func(b string) string { return strings.Replace(b, "\x0a1000000017", "\x111000000017xxxxxxx", 1) })},
		{"a key of 255 bytes", bodyOf(3, to("\xff"+strings.Repeat("2", 143)))},
		{"an entry cut in its key", bodyOf(3, func(b string) string { return b + "\x0a200000" })},
		{"an entry cut behind its key", bodyOf(3, func(b string) string { return b + "\x012" })},
		{"an entry cut in its record", bodyOf(3, func(b string) string { return b + "\x012\x06\x01\x00\x03ab" })},
		{"a length alone", bodyOf(3, func(b string) string { return b + "\x02" })},
		{"a zero behind the entries", bodyOf(3, func(b string) string { return b + "\x00" })},
		{"an entry over two frames", func(p []part) []part {
			p[2].body, p[3].body = p[2].body+p[3].body[:1], p[3].body[1:]
			return p
		}},
		{"a record without bytes", bodyOf(3, func(b string) string { return b + "\x012\x00" })},
		{"a record with bytes left over", bodyOf(3, func(b string) string { return b + "\x012\x07\x01\x00\x03abcd" })},
		{"a record with a bit that no field has", bodyOf(3, func(b string) string { return b + "\x012\x06\x03\x00\x03abc" })},
		{"a record with a needless group", bodyOf(3, func(b string) string { return b + "\x012\x07\x01\x80\x00\x03abc" })},
		{"a record of another schema", bodyOf(3, func(b string) string { return b + "\x012\x01\x00" })},
	}
}

// untailed: the parts in other memory, without their tail.
func untailed(parts []part) []part {
	return slices.Clone(parts[:len(parts)-1])
}

// P22.2: each fault alone, with the tail as it was and with one that is made for it, of the count as it was, as the entries are, and of others.
func TestCheckOfEachFault(t *testing.T) {
	for _, f := range bodyFaults() {
		whole := three()
		refused(t, f.what, laid(f.do(slices.Clone(whole)), 160), 160)
		for entries := 17; entries < 24; entries++ {
			parts := f.do(untailed(whole))
			refused(t, f.what+", with a tail for it", laid(tailed(entries, parts...), 160), 160)
		}
	}
	for _, f := range partFaults() {
		parts := f.do(three())
		refused(t, f.what, laid(parts, 160), 160)
		last := parts[len(parts)-1]
		if last.kind != 'Z' {
			continue
		}
		for entries := range 40 {
			again := untailed(parts)
			if is := checks(t, f.what, laid(tailed(entries, again...), 160), 160); is && !strings.Contains(f.what, "less") {
				t.Errorf("%s, with a tail of %d entries: a dump", f.what, entries)
			}
		}
	}
}

// P22.2: a frame holds as many entries as have room in it.
func TestCheckOfFramesThatAreNotFull(t *testing.T) {
	drill.Scripts([]int{1, 2, 6, 7, 8}, 3, func(many []int) {
		if is := checks(t, "so many in each frame", laid(grouped(many...), 160), 160); is != (many[0] == 8 && many[1] == 8) {
			t.Errorf("%v in each frame: a dump: %v", many, is)
		}
	})
	for size, want := range map[int]bool{160: true, 176: true, 177: false, 178: false, 200: false, 8192: false} {
		if is := checks(t, "in greater frames", laid(three(), size), size); is != want {
			t.Errorf("eight in a frame of %d bytes: a dump: %v", size, is)
		}
	}
}

// P22.2: it is the next entry's bytes that have room or not, not those of one further behind.
func TestCheckOfEntriesOfManyLengths(t *testing.T) {
	s := drill.SchemaOf("tag:bytes")
	of := func(key, tag string) string {
		return pieceOf(s, api.Entry{Key: key, Vals: []api.Value{{Kind: api.Bytes, S: tag}}})
	}
	full := ""
	for number := range 5 {
		full += of(strconv.Itoa(number), strings.Repeat("z", 20))
	}
	long, short := of("5"+strings.Repeat("x", 15), strings.Repeat("z", 20)), of("6", "")
	if len(full) != 120 || len(long) != 39 || len(short) != 4 {
		t.Fatalf("%d, %d and %d bytes", len(full), len(long), len(short))
	}
	for _, x := range []struct {
		bodies  []string
		entries int
		want    bool
	}{
		{[]string{full, long + short}, 7, true}, {[]string{full, long}, 6, true}, {[]string{full + short}, 6, true},
		{[]string{full, short}, 6, false}, {[]string{full, long, short}, 7, false}, {[]string{full[:96], full[96:] + long}, 6, false},
	} {
		parts := []part{headOf("tag:bytes", 0)}
		for _, body := range x.bodies {
			parts = append(parts, part{'E', body})
		}
		if is := checks(t, "of many lengths", laid(tailed(x.entries, parts...), 160), 160); is != x.want {
			t.Errorf("%q: a dump: %v", x.bodies, is)
		}
	}
}

// P22.2: the tail's count and sum.
func TestCheckOfTails(t *testing.T) {
	whole := three()
	right := whole[4].body
	for what, body := range map[string]string{
		"nothing": "", "the count alone": right[:8], "a byte less": right[:11], "a byte more": right + "\x00", "the head's": whole[0].body,
		"one entry less": "\x13" + right[1:], "one more": "\x15" + right[1:], "many more": right[:7] + "\x80" + right[8:], "none": "\x00" + right[1:],
		"another sum": right[:8] + string([]byte{right[8] ^ 1}) + right[9:], "another sum at its end": right[:11] + string([]byte{right[11] ^ 128}), "the sum ahead of the count": right[8:] + right[:8],
		"the sum without the head":   tailOf(20, whole[1:4]).body,
		"the sum with the tail":      tailOf(20, append(slices.Clone(whole[:4]), part{'Z', right[:8]})).body,
		"the sum of the last frames": tailOf(20, whole[2:4]).body, "the sum of nothing": tailOf(20, nil).body,
	} {
		parts := slices.Clone(whole)
		parts[4].body = body
		refused(t, "a tail: "+what, laid(parts, 160), 160)
	}
	// Of the frames as they lie there the sum says nothing.
	b := laid(whole, 160)
	parts := slices.Clone(whole)
	parts[4].body = tailOf(20, []part{{body: string(b[:640])}}).body
	refused(t, "a tail: the sum of the frames", laid(parts, 160), 160)
}

// P22.2: without entries, too, a head has a schema, and the frames are as many as they must be.
func TestCheckWithoutEntries(t *testing.T) {
	for _, schema := range []string{"", ",", "n", "n:int,", "n:int,n:int", "if:int", "n:int\x00", " n:int", "9:int"} {
		refused(t, "no schema: "+schema, laid(tailed(0, headOf(schema, 3)), 160), 160)
	}
	head := headOf("n:int", 3)
	for what, parts := range map[string][]part{
		"of some entries": tailed(1, head), "a frame without entries": tailed(0, head, part{'E', ""}), "two heads": tailed(0, head, head), "a tail alone": tailed(0), "two tails": append(tailed(0, head), tailed(0, head)[1]),
	} {
		refused(t, what, laid(parts, 160), 160)
	}
	if !checks(t, "nothing", laid(tailed(0, head), 160), 160) {
		t.Error("the book takes it for no dump")
	}
}

// P22.2: the tail is no frame of entries, also where its bytes are those of an entry whose key is above all others.
func TestCheckOfATailLikeEntries(t *testing.T) {
	s, met := drill.SchemaOf("n:int"), 0
	var list []api.Entry
	for zeros := range 8 {
		list = append(list, api.Entry{Key: strings.Repeat("\x00", zeros+1), Vals: []api.Value{{Kind: api.Int}}})
	}
	for seq := uint64(0); met < 10; seq++ {
		parts := partsOf("n:int", seq, piecesOf(s, list), 160)
		tail := parts[2].body // the count 8, and so its seven zeros and a byte of the sum for a key
		if _, e := value.Decode(s, []byte(tail[10:])); e == api.OK && tail[9] == 2 && tail[8] > 0 {
			met++
			if !checks(t, "a tail like entries", laid(parts, 160), 160) {
				t.Errorf("Seq %d: the book takes it for no dump", seq)
			}
		}
	}
}

// P22.2: the numbers of the frames.
func TestCheckOfGenerations(t *testing.T) {
	whole := three()
	for number := range whole {
		for _, gen := range []uint64{0, 1, 2, 3, 4, 5, 1 << 32, 1<<64 - 1} {
			if gen == uint64(number) {
				continue
			}
			b := laid(whole, 160)
			copy(b[number*160:], sealed(whole[number], gen, 160))
			refused(t, "frame "+strconv.Itoa(number)+" numbered "+strconv.FormatUint(gen, 10), b, 160)
		}
	}
	var b []byte
	for number, p := range whole {
		b = append(b, sealed(p, uint64(number+1), 160)...)
	}
	refused(t, "numbered from 1 on", b, 160)
}

// P22.2: what chapter 2's Open refuses: a byte behind a body, a body that is too long.
func TestCheckOfBrokenFrames(t *testing.T) {
	whole := three()
	for number := range whole {
		for _, at := range []int{11 + len(whole[number].body), 155} {
			p := part{whole[number].kind, whole[number].body}
			b := laid(whole, 160)
			frame := b[number*160 : (number+1)*160]
			frame[at] = 1
			longer := sealed(part{p.kind, string(frame[11 : at+1])}, uint64(number), 160)
			copy(frame, longer)
			length := len(p.body)
			frame[1], frame[2] = byte(length), byte(length>>8)
			resum(frame)
			refused(t, "frame "+strconv.Itoa(number)+" with a byte at "+strconv.Itoa(at), b, 160)
			frame[1], frame[2] = 146, 0
			resum(frame)
			refused(t, "frame "+strconv.Itoa(number)+" with too long a body", b, 160)
		}
	}
}

// resum: the sum of a frame is made right.
func resum(frame []byte) {
	end := len(frame) - 4
	copy(frame[end:], tailOf(0, []part{{body: string(frame[:end])}}).body[8:])
}

// P22.2: a dump is changed at random, and all sums are made right, or some: what comes of it is a dump just if the book says so.
func TestCheckOfSpoiledDumps(t *testing.T) {
	numbers := drill.Numbers(621)
	right, wrong := 0, 0
	for round := range 20000 {
		size := drill.Pick(&numbers, []int{160, 161, 170, 200})
		s := drill.Schemas()[round%2]
		parts := spoiledParts(&numbers, someParts(&numbers, s, size), size)
		b := laid(parts, size)
		if numbers.Below(10) == 0 {
			b = drill.Pick(&numbers, numbers.Spoiled(b, numbers.Below(len(b))))
		}
		if checks(t, "round "+strconv.Itoa(round), b, size) {
			right++
		} else {
			wrong++
		}
	}
	if right < 1000 || wrong < 10000 {
		t.Errorf("%d were dumps, %d were none", right, wrong)
	}
}

// someParts: of a dump of a few entries.
func someParts(numbers *drill.Numbers, s api.Schema, size int) []part {
	rows, f := map[string]api.Row{}, drill.Fitting{Schema: s, Numbers: numbers}
	for range numbers.Below(20) {
		rows[drill.SomeKey(numbers, 200)] = api.Row{Here: true, Vals: f.Record()}
	}
	text, _ := value.PrintSchema(s)
	return partsOf(text, uint64(numbers.Below(1000)), piecesOf(s, drill.EntriesOf(rows, "", "")), size)
}

// spoiledParts: one step away from the parts, with their own tail or with one that is made for them.
func spoiledParts(numbers *drill.Numbers, parts []part, size int) []part {
	number := numbers.Below(len(parts))
	switch numbers.Below(8) {
	case 0:
		parts = slices.Delete(parts, number, number+1)
	case 1:
		parts = slices.Insert(parts, number, drill.Pick(numbers, parts))
	case 2:
		other := numbers.Below(len(parts))
		parts[number], parts[other] = parts[other], parts[number]
	case 3:
		parts[number].kind = drill.Pick(numbers, []byte("HEZLSC\x00"))
	default:
		body := []byte(parts[number].body)
		if spoiled := drill.Pick(numbers, numbers.Spoiled(body, numbers.Below(len(body)))); len(spoiled) <= size-15 {
			parts[number].body = string(spoiled)
		}
	}
	if len(parts) > 0 && numbers.Below(3) > 0 {
		ahead := untailed(parts)
		parts = tailed(entriesIn(ahead), ahead...)
	}
	return parts
}

// entriesIn: how many can be counted in some parts, up to where none stands.
func entriesIn(parts []part) int {
	many := 0
	for _, p := range parts[min(1, len(parts)):] {
		for rest := p.body; len(rest) > 1 && len(rest) > 1+int(rest[0]); many++ {
			end := 2 + int(rest[0]) + int(rest[1+int(rest[0])])
			rest = rest[min(end, len(rest)):]
		}
	}
	return many
}
