package machine_test

import (
	"math/big"
	"slices"
	"testing"

	"arbor/api"
	"arbor/code"
	"arbor/drill"
	"arbor/machine"
	"arbor/value"
)

// The chapter's words once more, by other means than the program: values are Go's own (int64, bool, string), ints are reckoned with at any size and then wrapped, and a record is a map by the fields' names, in which what is absent has no place.

type book struct {
	schema api.Schema
	record map[string]any // nil: there is none
	stack  []any
	steps  []api.Step
	deep   int
}

var table = bookTable()

// bookRun: the run of a code that may be run, on a row of the schema.
func bookRun(s api.Schema, is []api.Ins, row api.Row) *book {
	m := &book{schema: s, record: recordOf(s, row)}
	for at := 0; at < len(is); {
		m.deep = max(m.deep, len(m.stack))
		m.steps = append(m.steps, api.Step{At: at, Types: m.types()})
		ins := is[at]
		at++
		passed := ins.Op == api.IJump
		if ins.Op == api.IUnless {
			passed = m.take() == false
		}
		if passed {
			at += int(ins.N)
		}
		if does := table[ins.Op]; does != nil {
			does(m, ins)
		}
	}
	m.deep = max(m.deep, len(m.stack))
	return m
}

func recordOf(s api.Schema, row api.Row) map[string]any {
	if !row.Here {
		return nil
	}
	record := map[string]any{}
	for i, v := range row.Vals {
		if v.Kind != api.None {
			record[s.Fields[i].Name] = map[int]any{api.Int: v.N, api.Bool: v.N == 1, api.Bytes: v.S}[v.Kind]
		}
	}
	return record
}

// row: what the record has become.
func (m *book) row() api.Row {
	if m.record == nil {
		return api.Row{}
	}
	row := api.Row{Here: true}
	for _, f := range m.schema.Fields {
		var v api.Value
		switch x := m.record[f.Name].(type) {
		case int64:
			v = api.Value{Kind: api.Int, N: x}
		case bool:
			v = api.Value{Kind: api.Bool}
			if x {
				v.N = 1
			}
		case string:
			v = api.Value{Kind: api.Bytes, S: x}
		}
		row.Vals = append(row.Vals, v)
	}
	return row
}

func (m *book) types() string {
	text := ""
	for _, x := range m.stack {
		switch x.(type) {
		case int64:
			text += "i"
		case bool:
			text += "b"
		case string:
			text += "s"
		}
	}
	return text
}

func (m *book) put(x any) { m.stack = append(m.stack, x) }

func (m *book) take() any {
	x := m.stack[len(m.stack)-1]
	m.stack = m.stack[:len(m.stack)-1]
	return x
}

func (m *book) field(ins api.Ins) api.Field { return m.schema.Fields[ins.N] }

func zeroOf(f api.Field) any {
	return map[int]any{api.Int: int64(0), api.Bool: false, api.Bytes: ""}[f.Type]
}

// worth: of a field, and is it present?
func (m *book) worth(ins api.Ins) (any, bool) {
	f := m.field(ins)
	x, present := m.record[f.Name]
	if !present {
		x = zeroOf(f)
	}
	return x, present
}

func (m *book) keep(ins api.Ins, x any) {
	if m.record != nil {
		m.record[m.field(ins).Name] = x
	}
}

func (m *book) renew() {
	if m.record != nil {
		return
	}
	m.record = map[string]any{}
	for _, f := range m.schema.Fields {
		if !f.Optional {
			m.record[f.Name] = zeroOf(f)
		}
	}
}

// wrapped: taken modulo 2^64, into -2^63 to 2^63 - 1.
func wrapped(x *big.Int) int64 {
	all, half := new(big.Int).Lsh(big.NewInt(1), 64), new(big.Int).Lsh(big.NewInt(1), 63)
	x.Mod(x.Add(x, half), all)
	return x.Sub(x, half).Int64()
}

// before: of ints the lesser one, of bytes the one that is less at the first place where they differ, or ends first.
func before(a, b any) bool {
	if n, is := a.(int64); is {
		return n < b.(int64)
	}
	x, y := a.(string), b.(string)
	for i := range min(len(x), len(y)) {
		if x[i] != y[i] {
			return x[i] < y[i]
		}
	}
	return len(x) < len(y)
}

func bookOne(does func(a any) any) func(m *book, ins api.Ins) {
	return func(m *book, _ api.Ins) { m.put(does(m.take())) }
}

func bookTwo(does func(a, b any) any) func(m *book, ins api.Ins) {
	return func(m *book, _ api.Ins) {
		b, a := m.take(), m.take()
		m.put(does(a, b))
	}
}

func bookInts(does func(z, a, b *big.Int) *big.Int) func(m *book, ins api.Ins) {
	return bookTwo(func(a, b any) any {
		return wrapped(does(new(big.Int), big.NewInt(a.(int64)), big.NewInt(b.(int64))))
	})
}

// bookTable: what the instructions do, but for where a run goes on.
func bookTable() map[int]func(m *book, ins api.Ins) {
	return map[int]func(m *book, ins api.Ins){
		api.IPush:   func(m *book, ins api.Ins) { m.put(ins.N) },
		api.ITrue:   func(m *book, ins api.Ins) { m.put(true) },
		api.IFalse:  func(m *book, ins api.Ins) { m.put(false) },
		api.IBytes:  func(m *book, ins api.Ins) { m.put(ins.S) },
		api.ILoad:   func(m *book, ins api.Ins) { x, _ := m.worth(ins); m.put(x) },
		api.IHas:    func(m *book, ins api.Ins) { _, present := m.worth(ins); m.put(present) },
		api.IHere:   func(m *book, ins api.Ins) { m.put(m.record != nil) },
		api.INot:    bookOne(func(a any) any { return a == false }),
		api.INeg:    bookOne(func(a any) any { return wrapped(new(big.Int).Neg(big.NewInt(a.(int64)))) }),
		api.IAdd:    bookInts((*big.Int).Add),
		api.ISub:    bookInts((*big.Int).Sub),
		api.IMul:    bookInts((*big.Int).Mul),
		api.IMin:    bookTwo(func(a, b any) any { return map[bool]any{true: a, false: b}[before(a, b)] }),
		api.IMax:    bookTwo(func(a, b any) any { return map[bool]any{true: b, false: a}[before(a, b)] }),
		api.ILt:     bookTwo(func(a, b any) any { return before(a, b) }),
		api.ILe:     bookTwo(func(a, b any) any { return !before(b, a) }),
		api.IEq:     bookTwo(func(a, b any) any { return a == b }),
		api.ILen:    bookOne(func(a any) any { return int64(len(a.(string))) }),
		api.ICat:    bookTwo(func(a, b any) any { return firstBytes(a.(string)+b.(string), 20) }),
		api.IStore:  func(m *book, ins api.Ins) { m.keep(ins, m.take()) },
		api.IAddTo:  bookAddTo,
		api.IClear:  func(m *book, ins api.Ins) { delete(m.record, m.field(ins).Name) },
		api.INew:    func(m *book, ins api.Ins) { m.renew() },
		api.IDelete: func(m *book, ins api.Ins) { m.record = nil },
	}
}

func bookAddTo(m *book, ins api.Ins) {
	old, _ := m.worth(ins)
	m.keep(ins, wrapped(new(big.Int).Add(big.NewInt(old.(int64)), big.NewInt(m.take().(int64)))))
}

func firstBytes(text string, most int) string {
	if len(text) > most {
		return text[:most]
	}
	return text
}

func sameOutcome(a, b api.Outcome) bool {
	return drill.SameRow(a.Row, b.Row) && a.Steps == b.Steps && a.Deep == b.Deep
}

// wantRun: of a code that may be run, and a row of the schema: Run, Exec and Trace say what the book says, and keep to the bounds (P13.1 to P13.4).
func wantRun(t *testing.T, s api.Schema, is []api.Ins, row api.Row) api.Outcome {
	t.Helper()
	m := bookRun(s, is, row)
	want := api.Outcome{Row: m.row(), Steps: len(m.steps), Deep: m.deep}
	got, e := machine.Run(s, is, row)
	if e != api.OK || !sameOutcome(got, want) {
		t.Fatalf("Run(%s) on %s = %+v, %d, want %+v", drill.ShownCode(is), drill.ShownRow(s, row), got, e, want)
	}
	steps, e := machine.Trace(s, is, row)
	if e != api.OK || !slices.Equal(steps, m.steps) {
		t.Fatalf("Trace(%s) on %s = %+v, %d, want %+v", drill.ShownCode(is), drill.ShownRow(s, row), steps, e, m.steps)
	}
	b, _ := code.Encode(is...)
	if end, e := machine.Exec(s, b, row); e != api.OK || !drill.SameRow(end, want.Row) {
		t.Fatalf("Exec(%s) on %s = %+v, %d, want %+v", drill.ShownCode(is), drill.ShownRow(s, row), end, e, want.Row)
	}
	wantBounds(t, s, is, got, steps)
	return got
}

// wantBounds: P13.4, of what Run and Trace say of a run.
func wantBounds(t *testing.T, s api.Schema, is []api.Ins, got api.Outcome, steps []api.Step) {
	t.Helper()
	deep, _, _ := code.Verify(s, is...)
	texts, _ := code.Types(s, is...)
	if got.Steps > len(is) || got.Steps != len(steps) || got.Deep > deep || deep > api.MaxStack {
		t.Fatalf("%s: %d steps, a trace of %d, %d deep; Verify says %d", drill.ShownCode(is), got.Steps, len(steps), got.Deep, deep)
	}
	last := -1
	for _, step := range steps {
		if step.At <= last || step.At >= len(is) || step.Types != texts[step.At] {
			t.Fatalf("%s: a step %+v behind place %d; Types says %q", drill.ShownCode(is), step, last, texts)
		}
		last = step.At
	}
	if !isRow(s, got.Row) {
		t.Fatalf("%s: no row of the schema came out: %+v", drill.ShownCode(is), got.Row)
	}
}

func isRow(s api.Schema, row api.Row) bool {
	if !row.Here {
		return len(row.Vals) == 0
	}
	return value.Check(s, row.Vals) == api.OK
}

// wantError: the calls answer an error and nothing else; Exec is asked where the code has bytes.
func wantError(t *testing.T, s api.Schema, is []api.Ins, row api.Row, want api.Errno) {
	t.Helper()
	if o, e := machine.Run(s, is, row); e != want || !sameOutcome(o, api.Outcome{}) {
		t.Fatalf("Run(%s) on %+v = %+v, %d, want %d", drill.ShownCode(is), row, o, e, want)
	}
	if steps, e := machine.Trace(s, is, row); e != want || len(steps) > 0 {
		t.Fatalf("Trace(%s) on %+v = %+v, %d, want %d", drill.ShownCode(is), row, steps, e, want)
	}
	if b, e := code.Encode(is...); e == api.OK {
		wantExecError(t, s, b, row, want)
	}
}

func wantExecError(t *testing.T, s api.Schema, b []byte, row api.Row, want api.Errno) {
	t.Helper()
	if end, e := machine.Exec(s, b, row); e != want || !drill.SameRow(end, api.Row{}) {
		t.Fatalf("Exec(% x) on %+v = %+v, %d, want %d", b, row, end, e, want)
	}
}

// fewRows: no record, the fullest and the emptiest one, and one between.
func fewRows(s api.Schema) []api.Row {
	rows := drill.Rows(s)
	return []api.Row{rows[0], rows[2], rows[len(rows)/2], rows[len(rows)-1]}
}

// rightCodes: codes that may be run on the rows of a schema, short ones and long ones.
func rightCodes(t *testing.T, seed drill.Numbers, tries int, each func(fitting drill.Fitting, is []api.Ins)) {
	t.Helper()
	for _, s := range drill.Schemas() {
		fitting, right := drill.Fitting{Schema: s, Numbers: &seed}, 0
		for i := range tries {
			is := fitting.Code(2 + i%4)
			if _, _, e := code.Verify(s, is...); e == api.OK {
				right++
				each(fitting, is)
			}
		}
		if right < tries/2 {
			t.Errorf("only %d of %d codes may be run", right, tries)
		}
	}
}
