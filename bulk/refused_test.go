package bulk_test

import (
	"bytes"
	"math"
	"slices"
	"strings"
	"testing"

	"arbor/api"
	"arbor/bulk"
	"arbor/drill"
	"arbor/pager"
)

// wrongMeasures: for the room of a page of 256 bytes.
func wrongMeasures() []api.Config {
	return []api.Config{
		{}, {Fanout: 4, Leaf: 2, Buffer: 114}, {Fanout: 3, Leaf: 2, Buffer: 115}, {Fanout: 4, Leaf: 1, Buffer: 115},
		{Fanout: 65, Leaf: 2, Buffer: 115}, {Fanout: 4, Leaf: 65, Buffer: 115}, {Fanout: 4, Leaf: 3, Buffer: 115},
		{Fanout: 4, Leaf: 2, Buffer: 179}, {Fanout: 8, Leaf: 2, Buffer: 115}, {Fanout: 4, Leaf: 2, Buffer: math.MaxInt},
		{Fanout: -1, Leaf: -1, Buffer: -1}, {Fanout: math.MaxInt, Leaf: 2, Buffer: 115}, {Fanout: 4, Leaf: math.MinInt, Buffer: 115},
	}
}

// wrongEntries: lists that are refused, each with further faults behind the one that is to be told.
func wrongEntries(s api.Schema) []drill.Wrong[[]api.Entry] {
	record := drill.Records(s)[0]
	var list []drill.Wrong[[]api.Entry]
	add := func(e api.Errno, entries ...api.Entry) {
		good := []api.Entry{{Key: "\x00", Vals: record}, {Key: "\x00\x00", Vals: record}, {Key: "\x01", Vals: record}}
		for _, ahead := range [][]api.Entry{nil, good[:1], good} {
			for _, behind := range [][]api.Entry{nil, {{}}, {{Key: "z"}, {}}, {{Key: "\x00", Vals: record}, {}}} {
				list = append(list, drill.Wrong[[]api.Entry]{Part: slices.Concat(ahead, entries, behind), Errno: e})
			}
		}
	}
	for _, key := range []string{"", strings.Repeat("k", 17), strings.Repeat("k", 1<<20), strings.Repeat("\x00", 17)} {
		add(api.ErrKey, api.Entry{Key: key, Vals: record})
		add(api.ErrKey, api.Entry{Key: key})
		add(api.ErrKey, api.Entry{Key: "m", Vals: record}, api.Entry{Key: key, Vals: record})
	}
	for _, vals := range drill.WrongRecords(s) {
		add(api.ErrValue, api.Entry{Key: "k", Vals: vals})
		add(api.ErrValue, api.Entry{Key: "m", Vals: record}, api.Entry{Key: "k", Vals: vals})
	}
	for _, pair := range [][2]string{{"m", "k"}, {"m", "m"}, {"mm", "m"}, {"m\x00", "m"}, {"\x80", "\x7f"}, {"\xff", "\x80"}, {"b", "ab"}, {"b", "aaaaaaaaaaaaaaaa"}, {strings.Repeat("\xff", 16), strings.Repeat("\xff", 16)}, {strings.Repeat("\xff", 16), strings.Repeat("\xff", 15)}} {
		add(api.ErrRising, api.Entry{Key: pair[0], Vals: record}, api.Entry{Key: pair[1], Vals: record})
	}
	return list
}

// P26.2: of entries the first that is wrong counts; of it the key ahead of the values, and these ahead of its place.
func TestBuildOfWrongEntries(t *testing.T) {
	for _, s := range drill.Schemas() {
		w := newSite(t, drill.GeometryOf(exampleMeasures, 60), s, exampleMeasures)
		was := w.d.Stats()
		for _, wrong := range wrongEntries(s) {
			if root, e := bulk.Build(w.p, s, w.c, wrong.Part...); root != 0 || e != wrong.Errno {
				t.Fatalf("Build(%s) = %d, %d, want %d", drill.ShownEntries(s, wrong.Part[:min(4, len(wrong.Part))]), root, e, wrong.Errno)
			}
		}
		if w.d.Stats() != was || w.p.Left() != 58 {
			t.Errorf("calls that are refused ahead of all else touch the pages")
		}
		w.free()
	}
}

// P26.2: a wrong entry far behind, or as the last of many.
func TestBuildOfOneWrongEntryAmongMany(t *testing.T) {
	numbers := drill.Numbers(411)
	w := newSite(t, drill.GeometryOf(exampleMeasures, 600), drill.Schemas()[0], exampleMeasures)
	list := entriesOf(drill.Fitting{Schema: w.s, Numbers: &numbers}, 200)
	for at := range list {
		for _, bad := range []struct {
			entry api.Entry
			want  api.Errno
		}{
			{api.Entry{Vals: list[at].Vals}, api.ErrKey},
			{api.Entry{Key: list[at].Key}, api.ErrValue},
			{api.Entry{Key: list[at].Key, Vals: append(slices.Clone(list[at].Vals), api.Value{})}, api.ErrValue},
			{api.Entry{Key: list[(at+1)%len(list)].Key, Vals: list[at].Vals}, api.ErrRising},
		} {
			entries := slices.Clone(list)
			entries[at] = bad.entry
			w.refused(bad.want, w.c, entries...)
		}
	}
	w.builds(list)
}

// P26.2, R2, R3, R9: the errors in their order: no pager, no schema, no measures, wrong entries, an operation that is open, no room, no power.
func TestOrderOfErrors(t *testing.T) {
	w := example(t)
	full, dead, gone := example(t), example(t), example(t)
	numbers := drill.Numbers(412)
	for full.p.Left() > 0 {
		full.putOther(&numbers)
	}
	for gone.p.Left() > 0 {
		gone.putOther(&numbers)
	}
	drill.Kill(dead.d)
	drill.Kill(gone.d)
	good := named("abc")
	lists := []drill.Wrong[[]api.Entry]{{Part: nil, Errno: api.OK}, {Part: good, Errno: api.OK}, {Part: named("ba"), Errno: api.ErrRising}, {Part: []api.Entry{{}}, Errno: api.ErrKey}, {Part: []api.Entry{{Key: "a"}}, Errno: api.ErrValue}}
	for _, list := range lists {
		for _, s := range append(drill.WrongSchemas(), w.s) {
			for _, c := range append(wrongMeasures(), w.c) {
				if root, e := bulk.Build(nil, s, c, list.Part...); root != 0 || e != api.ErrArg {
					t.Fatalf("Build in no pager = %d, %d", root, e)
				}
			}
		}
		for i, x := range []*site{w, full, dead, gone} {
			left, was, image := x.p.Left(), x.d.Stats(), x.d.Image()
			for _, open := range []bool{false, true} {
				if open {
					x.p.Begin()
				}
				for _, s := range drill.WrongSchemas() {
					for _, c := range append(wrongMeasures(), x.c) {
						wantBuild(t, x.p, s, c, list.Part, api.ErrSchema)
					}
				}
				for _, c := range wrongMeasures() {
					wantBuild(t, x.p, x.s, c, list.Part, api.ErrConfig)
				}
				want := list.Errno
				if want == api.OK && open {
					want = api.ErrOp
				}
				if want == api.OK {
					want = []api.Errno{api.OK, api.ErrFull, api.ErrPower, api.ErrFull}[i]
				}
				if want != api.OK {
					wantBuild(t, x.p, x.s, x.c, list.Part, want)
				}
			}
			if e := x.p.Cancel(); e != api.OK {
				t.Errorf("the operation is not open any more: %d", e)
			}
			if x.p.Left() != left || x.d.Stats() != was || !bytes.Equal(x.d.Image(), image) {
				t.Errorf("a refused Build touches the pages")
			}
		}
	}
	w.builds(good)
}

func wantBuild(t *testing.T, p *pager.Pager, s api.Schema, c api.Config, entries []api.Entry, want api.Errno) {
	t.Helper()
	if root, e := bulk.Build(p, s, c, entries...); root != 0 || e != want {
		t.Fatalf("Build(%v) of %d entries = %d, %d, want %d", c, len(entries), root, e, want)
	}
}

// P26.2: within somebody's operation nothing is built, and it goes on.
func TestBuildWithinAnOperation(t *testing.T) {
	w := example(t)
	numbers := drill.Numbers(413)
	w.p.Begin()
	w.putOther(&numbers)
	wantBuild(t, w.p, w.s, w.c, named("abc"), api.ErrOp)
	wantBuild(t, w.p, w.s, w.c, nil, api.ErrOp)
	w.putOther(&numbers)
	if e := w.p.Keep(); e != api.OK {
		t.Fatalf("Keep = %d", e)
	}
	w.builds(named("abc"))
	w.shape()
}

// P26.1, P26.2: a page's room is asked by Build, to the byte.
func TestMeasuresThatJustFit(t *testing.T) {
	g := exampleSize // a room of 241 bytes
	for _, c := range []api.Config{{Fanout: 4, Leaf: 2, Buffer: 178}, {Fanout: 7, Leaf: 2, Buffer: 121}, {Fanout: 7, Leaf: 2, Buffer: 115}} {
		w := newSite(t, g, drill.SchemaOf("n:int"), c)
		w.builds(named("abcdefghijklmnopqrstuvwxyz"))
		w.shape()
		for _, more := range []api.Config{{Buffer: 7}, {Fanout: 5}, {Leaf: 1}} {
			high := api.Config{Fanout: c.Fanout + more.Fanout, Leaf: c.Leaf + more.Leaf, Buffer: c.Buffer + more.Buffer}
			w.refused(api.ErrConfig, high, named("ab")...)
			if n := bulk.Pages(high, 2); n != 1 {
				t.Errorf("Pages(%v, 2) = %d", high, n)
			}
		}
	}
}

// R1: lists without end are refused by their first fault, or by the pager that has no room.
func TestBuildOfManyEntries(t *testing.T) {
	s := drill.SchemaOf("n:int")
	vals := []api.Value{{Kind: api.Int, N: 7}}
	var list []api.Entry
	for number := range 300000 {
		list = append(list, api.Entry{Key: string([]byte{byte(number >> 16), byte(number >> 8), byte(number)}), Vals: vals})
	}
	for _, c := range []api.Config{drill.Measures()[0], drill.Measures()[7]} {
		w := newSite(t, drill.GeometryOf(c, 100), s, c)
		w.refused(api.ErrFull, c, list...)
		w.refused(api.ErrRising, c, append(list[:len(list):len(list)], list[0])...)
		w.refused(api.ErrKey, c, append(list[:len(list):len(list)], api.Entry{Key: strings.Repeat("\xff", 1<<20)})...)
		w.refused(api.ErrValue, c, append(list[:len(list):len(list)], api.Entry{Key: "\xff", Vals: make([]api.Value, 1<<20)})...)
		w.refused(api.ErrKey, c, make([]api.Entry, 1<<20)...)
		w.builds(list[:60])
		w.holds(w.x)
	}
}
