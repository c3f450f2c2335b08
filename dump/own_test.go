package dump_test

import (
	"bytes"
	"slices"
	"strings"
	"testing"

	"arbor/api"
	"arbor/drill"
	"arbor/dump"
)

// R5: bytes that are handed in are not changed, nor is the room behind them, whether they are a dump or not.
func TestArgumentsAreNotChanged(t *testing.T) {
	numbers := drill.Numbers(661)
	c := drill.Measures()[0]
	_, b := some(&numbers, drill.Schemas()[0], 12, 160)
	for _, b := range [][]byte{nil, b, b[:480], b[:len(b)-3], drill.Turned(b, 777, 9), make([]byte, 320)} {
		given := drill.Roomy(b, 77)
		dump.Check(given, 160)
		for range dump.Entries(given, 160) {
		}
		g := drill.GeometryOf(c, 200)
		dump.Load(given, 160, drill.NewDisk(g), g, c)
		if !drill.AsItWas(given, b, 77) {
			t.Fatalf("%d bytes were changed", len(b))
		}
	}
}

// R5: what is given is new memory: what becomes of it is seen neither by the store nor in a later answer.
func TestAnswersShareNothing(t *testing.T) {
	numbers := drill.Numbers(662)
	sh := grown(t, drill.Schemas()[0], drill.Measures()[1], &numbers, 20)
	first, second := sh.saves(160), sh.saves(160)
	if drill.Shares(first, second) {
		t.Fatal("two dumps share memory")
	}
	drill.Overwrite(first, 77)
	if !bytes.Equal(second, sh.dump(160)) {
		t.Error("what was done to one dump is seen in another")
	}
	sh.saves(160)
	one, _ := dump.Check(second, 160)
	two, _ := dump.Check(second, 160)
	if drill.Shares(one.Schema.Fields, two.Schema.Fields) {
		t.Fatal("two schemas share memory")
	}
	drill.Overwrite(one.Schema.Fields, api.Field{Name: "spare"})
	if three, _ := dump.Check(second, 160); !slices.Equal(two.Schema.Fields, sh.Schema.Fields) || !slices.Equal(three.Schema.Fields, sh.Schema.Fields) {
		t.Error("what was done to one schema is seen in another")
	}
}

// R5: what becomes of the bytes behind Load is not seen by the store.
func TestLoadKeepsNothing(t *testing.T) {
	numbers := drill.Numbers(663)
	c := drill.Measures()[3]
	for _, s := range drill.Schemas() {
		list, b := some(&numbers, s, 20, 160)
		g := drill.GeometryOf(c, 300)
		x, e := dump.Load(b, 160, drill.NewDisk(g), g, c)
		if e != api.OK {
			t.Fatalf("Load = %d", e)
		}
		clear(b)
		holds(t, "behind it", x, list)
		if !slices.Equal(x.Schema().Fields, s.Fields) {
			t.Errorf("Schema = %v", x.Schema())
		}
	}
}

// R6: two stores of one dump know nothing of one another.
func TestTwoStoresOfOneDump(t *testing.T) {
	numbers := drill.Numbers(664)
	c := drill.Measures()[0]
	s := drill.SchemaOf("n:int")
	list, b := some(&numbers, s, 10, 160)
	g := drill.GeometryOf(c, 200)
	one, two := loads(t, b, 160, s, list, g, c), loads(t, b, 160, s, list, g, c)
	for _, entry := range list {
		if e := one.Delete(entry.Key); e != api.OK {
			t.Fatalf("Delete = %d", e)
		}
	}
	holds(t, "the changed one", one, nil)
	holds(t, "the other one", two, list)
	checks(t, "the dump", b, 160)
}

// R1: long bytes of all kinds.
func TestLongBytes(t *testing.T) {
	s := drill.SchemaOf("n:int")
	var list []api.Entry
	for number := range 20000 {
		key := strings.Repeat("k", number%5) + string([]byte{byte(number >> 16), byte(number >> 8), byte(number)})
		list = append(list, api.Entry{Key: key, Vals: []api.Value{{Kind: api.Int, N: int64(number)}}})
	}
	slices.SortFunc(list, func(a, b api.Entry) int { return strings.Compare(a.Key, b.Key) })
	b := bookDump(s, 1<<63, list, 160)
	if !checks(t, "many entries", b, 160) {
		t.Fatal("the book takes it for no dump")
	}
	refused(t, "the last two out of order", bookDump(s, 0, append(list[:19998:19998], list[19999], list[19998]), 160), 160)
	refused(t, "many entries, cut", b[:len(b)-160], 160)
	refused(t, "a head many times", bytes.Repeat(b[:160], 20000), 160)
	refused(t, "many dumps", bytes.Repeat(bookDump(s, 1, list[:1], 160), 10000), 160)
}
