package drill_test

import (
	"testing"

	"arbor/api"
	"arbor/drill"
	"arbor/lower"
	"arbor/value"
)

// Changes that are made are such for rows of the schema, of each kind; the programs of upserts are short ones and long ones.
func TestChanges(t *testing.T) {
	numbers := drill.Numbers(11)
	for _, s := range drill.Schemas() {
		fitting, kinds, long := drill.Fitting{Schema: s, Numbers: &numbers}, map[int]int{}, 0
		for range 1000 {
			c := fitting.Change("k")
			kinds[c.Kind]++
			switch _, e, _ := lower.Compile(s, c.Src); {
			case c.Kind == api.MPut && (c.Src != "" || value.Check(s, c.Vals) != api.OK), c.Kind != api.MPut && len(c.Vals) > 0, c.Kind == api.MDelete && c.Src != "", e != api.OK:
				t.Fatalf("%s", drill.ShownChange(s, c))
			case len(c.Src) > 100:
				long++
			}
		}
		if kinds[api.MPut] < 100 || kinds[api.MDelete] < 100 || kinds[api.MUpsert] < 100 || len(kinds) != 3 || long < 10 {
			t.Errorf("of the kinds came %v, with %d long sources", kinds, long)
		}
	}
}

// Wrong sources are told by the compiler as they say.
func TestWrongChanges(t *testing.T) {
	for _, s := range drill.Schemas() {
		met := map[api.Errno]int{}
		for _, w := range drill.WrongChanges(s) {
			met[w.Errno]++
			if w.Errno < api.ErrSource || w.Errno > api.ErrBig {
				continue
			}
			if _, e, _ := lower.Compile(s, w.Part.Src); e != w.Errno || w.Part.Kind != api.MUpsert || len(w.Part.Vals) > 0 {
				t.Errorf("%s: %d, want %d", drill.ShownChange(s, w.Part), e, w.Errno)
			}
		}
		for _, e := range []api.Errno{api.ErrKey, api.ErrMessage, api.ErrValue, api.ErrSource, api.ErrSyntax, api.ErrType, api.ErrBig} {
			if met[e] == 0 {
				t.Errorf("no change is refused with %d", e)
			}
		}
	}
}

func TestChangesAsTexts(t *testing.T) {
	s := drill.SchemaOf("n:int,tag:bytes?")
	for _, x := range []struct {
		text, shown string
		c           api.Change
	}{
		{`put k {n=5,tag="a b"}`, `put "k" {n=5,tag="a b"}`, api.Change{Kind: api.MPut, Key: "k", Vals: drill.RowOf(s, `{n=5,tag="a b"}`).Vals}},
		{"delete key", `delete "key"`, api.Change{Kind: api.MDelete, Key: "key"}},
		{"upsert k new; n += 1", `upsert "k" new; n += 1`, api.Change{Kind: api.MUpsert, Key: "k", Src: "new; n += 1"}},
	} {
		c := drill.ChangeOf(s, x.text)
		if drill.ShownChange(s, c) != x.shown || drill.ShownChange(s, x.c) != x.shown || c.Kind != x.c.Kind || c.Src != x.c.Src {
			t.Errorf("%s: %+v, %s", x.text, c, drill.ShownChange(s, c))
		}
	}
	for _, c := range []api.Change{{Kind: 4, Key: "k"}, {Kind: api.MDelete, Key: "k", Src: "new"}, {Kind: api.MUpsert, Key: "k", Vals: make([]api.Value, 1)}, {Kind: api.MPut, Src: "new"}} {
		if shown := drill.ShownChange(s, c); shown[:9] != "no change" {
			t.Errorf("%+v is shown as %s", c, shown)
		}
	}
	defer func() {
		if recover() == nil {
			t.Error("a text that is no change is taken")
		}
	}()
	drill.ChangeOf(s, "take k")
}

func TestPlayChanges(t *testing.T) {
	s := drill.SchemaOf("n:int,tag:bytes?")
	rows := map[string]api.Row{"z": {Here: true, Vals: drill.RowOf(s, "{n=9}").Vals}}
	var list []api.Change
	for _, text := range []string{"put a {n=5}", "upsert a n += 7", "upsert b n += 1", "upsert c new; n = 3", "delete z", "put d {n=1}", "upsert d delete"} {
		list = append(list, drill.ChangeOf(s, text))
	}
	played := drill.PlayChanges(s, rows, list...)
	if len(rows) != 1 || !rows["z"].Here {
		t.Errorf("the rows that were given became %v", rows)
	}
	for key, want := range map[string]string{"a": "{n=12}", "b": "none", "c": "{n=3}", "d": "none", "z": "none"} {
		if got := drill.ShownRow(s, played[key]); got != want {
			t.Errorf("%s: %s, want %s", key, got, want)
		}
	}
	if text := drill.ShownChanges(s, list[1:3]); text != `upsert "a" n += 7 | upsert "b" n += 1 | ` {
		t.Errorf("they are shown as %s", text)
	}
}
