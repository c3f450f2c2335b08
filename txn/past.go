package txn

import (
	"cmp"
	"slices"

	"arbor/api"
)

// version: a key's row as it was ahead of the commit of that number.
type version struct {
	commit int
	row    api.Row
}

// commit: a transaction's changes are the store's. The rows of their keys that others see still are read ahead of that.
func (m *Manager) commit(t *Txn) api.Errno {
	rows, e := m.seenByOthers(t)
	if e != api.OK {
		return e
	}
	if e := m.store.Apply(t.changes...); e != api.OK {
		return e
	}
	m.commits++
	for key, row := range rows {
		m.rows[key] = append(m.rows[key], version{commit: m.commits, row: row})
	}
	if len(m.open) > 1 {
		for _, c := range t.changes {
			m.last[c.Key] = m.commits
		}
	}
	return api.OK
}

// seenByOthers: the rows of the keys that a transaction's changes name, as the store has them, where another open transaction sees them so. (One that began ahead of the last commit that named a key sees an older row, which is kept already.)
func (m *Manager) seenByOthers(t *Txn) (map[string]api.Row, api.Errno) {
	rows := map[string]api.Row{}
	for _, c := range t.changes {
		sees := func(other *Txn) bool { return other != t && other.begun >= m.last[c.Key] }
		if _, is := rows[c.Key]; is || !slices.ContainsFunc(m.open, sees) {
			continue
		}
		row, e := m.store.Get(c.Key)
		if e != api.OK {
			return nil, e
		}
		rows[c.Key] = row
	}
	return rows, api.OK
}

// rowBehind: a key's row behind the commit behind which an open transaction began. Its memory may be the manager's.
func (m *Manager) rowBehind(commit int, key string) (api.Row, api.Errno) {
	if m.store.Mode() == api.ModeDead {
		return api.Row{}, api.ErrPower
	}
	if row, changed := m.keptRow(commit, key); changed {
		return row, api.OK
	}
	return m.store.Get(key)
}

// rowsBehind: likewise those of the keys in a range that were changed since.
func (m *Manager) rowsBehind(commit int, of api.Range) map[string]api.Row {
	rows := map[string]api.Row{}
	for key := range m.rows {
		if row, changed := m.keptRow(commit, key); changed && within(of, key) {
			rows[key] = row
		}
	}
	return rows
}

// keptRow: what the first commit found that has changed a key since, if one has.
func (m *Manager) keptRow(commit int, key string) (api.Row, bool) {
	for _, v := range m.rows[key] {
		if v.commit > commit {
			return v.row, true
		}
	}
	return api.Row{}, false
}

// forget: what no open transaction can need any more.
func (m *Manager) forget() {
	for key, commit := range m.last {
		if !m.anyBegan(0, commit) {
			delete(m.last, key)
		}
	}
	for key, list := range m.rows {
		if list = m.needed(list); len(list) > 0 {
			m.rows[key] = list
		} else {
			delete(m.rows, key)
		}
	}
}

// needed: those of a key's rows that an open transaction sees: each is seen by those that began behind the commit that made it, and ahead of the one that changed it.
func (m *Manager) needed(list []version) []version {
	kept, made := list[:0], 0
	for _, v := range list {
		if m.anyBegan(made, v.commit) {
			kept = append(kept, v)
		}
		made = v.commit
	}
	clear(list[len(kept):])
	return kept
}

// anyBegan: is there an open transaction that began behind the one commit, and ahead of the other?
func (m *Manager) anyBegan(behind, ahead int) bool {
	at, _ := slices.BinarySearchFunc(m.open, behind, func(t *Txn, behind int) int { return cmp.Compare(t.begun, behind) })
	return at < len(m.open) && m.open[at].begun < ahead
}
