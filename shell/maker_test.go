package shell_test

import (
	"fmt"
	"strings"

	"arbor/api"
	"arbor/drill"
	"arbor/value"
)

// maker: lines of scripts for stores of a schema, right ones and now and then wrong ones.
type maker struct {
	drill.Fitting
	keys  int  // how many of them there are
	power bool // may it go?
}

// storeText: the line that makes a store.
func storeText(g api.Geometry, c api.Config, s api.Schema) string {
	text, _ := value.PrintSchema(s)
	return fmt.Sprintf("store %d %d %d %d %d %d %d %s", g.Sector, g.Per, g.Log, g.Blocks, c.Fanout, c.Leaf, c.Buffer, text)
}

func (m maker) one(list ...string) string {
	return drill.Pick(m.Numbers, list)
}

// rarely: once in so many times.
func (m maker) rarely(times int) bool {
	return m.Numbers.Below(times) == 0
}

// key: in one of the ways in which it may be written.
func (m maker) key() string {
	if m.rarely(40) {
		return m.one(`""`, "0123456789abcdefg", `"01234567890123456789"`, strings.Repeat("k", 40))
	}
	return m.written(drill.SomeKey(m.Numbers, m.keys))
}

func (m maker) written(key string) string {
	switch {
	case plain.MatchString(key) && !m.rarely(4):
		return key
	case m.rarely(3):
		return fmt.Sprintf(`"`+strings.Repeat(`\x%02X`, len(key))+`"`, bytesOf(key)...)
	}
	return value.Quote(key)
}

func bytesOf(text string) []any {
	var list []any
	for i := range len(text) {
		list = append(list, text[i])
	}
	return list
}

func (m maker) record() string {
	if m.rarely(25) {
		return m.one("", "{", "{n}", "{nobody=1}", "{n=01}", "none", "{ }", "{} ", `{tag="`)
	}
	text, _ := value.Print(m.Schema, m.Record())
	return text
}

func (m maker) source() string {
	switch m.Numbers.Below(20) {
	case 0:
		return m.one("n +", "n = nobody", "n = on", "n = tag", "(", "", "new;;", "n = 99999999999999999999", `tag = "`, "\xff", "n = 1; n = 2; n = true", strings.Repeat(" ", 257), strings.Repeat(`tag = "01234567890123456789";`, 5))
	case 1:
		return "new # and no more"
	case 2, 3, 4, 5:
		return "new; n += " + fmt.Sprint(m.Numbers.Below(100))
	}
	return m.Source()
}

func (m maker) line() string {
	switch n := m.Numbers.Below(100); {
	case n < 20:
		return "put " + m.key() + " " + m.record()
	case n < 28:
		return "delete " + m.key()
	case n < 48:
		return "upsert " + m.key() + " " + m.source()
	case n < 54:
		return m.one("batch", "batch", "apply", "forget")
	case n < 64:
		return "get " + m.key()
	case n < 70:
		return m.scan()
	case n < 80:
		return m.one("sync", "checkpoint", "seq", "mode", "audit")
	case n < 90:
		return m.program()
	case n < 93:
		return m.one("", "#", "# get a", "sync ", "batch x", "get", "put a", "what", " seq", "get a b", "run {", "arm", "arm 00", "crash", "crash 2", "store 1", "\x00", "\xff\xfe")
	}
	if !m.power {
		return m.one("open", "seq", "apply")
	}
	return m.ofPower()
}

func (m maker) scan() string {
	lo, hi := m.key(), m.key()
	if m.rarely(3) {
		lo = `""`
	}
	if m.rarely(2) {
		hi = `""`
	}
	return fmt.Sprintf("scan %s %s %d", lo, hi, drill.Pick(m.Numbers, []int{0, 1, 2, 5, 20, 99999999, -1}))
}

func (m maker) program() string {
	row := m.record()
	if m.rarely(4) || !strings.HasPrefix(row, "{") {
		row = "none"
	}
	return m.one("print "+m.source(), "compile "+m.source(), "run "+row+" "+m.source())
}

func (m maker) ofPower() string {
	switch m.Numbers.Below(5) {
	case 0, 1:
		return fmt.Sprintf("arm %d", m.Numbers.Below(40)-5)
	case 2:
		return "open"
	}
	bits := ""
	for _, kept := range m.Numbers.Keep(30) {
		bits += map[bool]string{false: "0", true: "1"}[kept]
	}
	if bits == "" {
		bits = "-"
	}
	return "crash " + bits + "\nopen"
}

// script: of so many lines behind the one that makes a store.
func (m maker) script(head string, lines int) string {
	text := head + "\n"
	for range lines {
		text += m.line() + "\n"
	}
	return text
}
