package store

import (
	"slices"

	"arbor/api"
	"arbor/disk"
	"arbor/layout"
	"arbor/node"
	"arbor/pager"
	"arbor/tree"
	"arbor/value"
	"arbor/wal"
)

// maxOpened: the last generation from which a store goes on. No store gets there, and from there on no commit of one is refused for its number.
const maxOpened = api.MaxGen / 2

// Create: an empty store on a disk.
func Create(d *disk.Disk, g api.Geometry, c api.Config, s api.Schema) (*Store, api.Errno) {
	if e := mayCreate(d, g, c, s); e != api.OK {
		return nil, e
	}
	p, e := pager.Format(d, g)
	if e != api.OK {
		return nil, e
	}
	made := &Store{disk: d, pages: p, config: c, schema: api.Schema{Fields: slices.Clone(s.Fields)}}
	if made.catalog, e = p.Put(api.KindCatalog, catalogOf(c, s)); e != api.OK {
		return nil, e
	}
	if made.tree, e = tree.New(p, s, c); e != api.OK {
		return nil, e
	}
	if e := made.commit(0); e != api.OK {
		return nil, e
	}
	return made, api.OK
}

// mayCreate: all that Create refuses ahead of touching the disk.
func mayCreate(d *disk.Disk, g api.Geometry, c api.Config, s api.Schema) api.Errno {
	if d == nil {
		return api.ErrArg
	}
	if d.Dead() {
		return api.ErrPower
	}
	if e := value.CheckSchema(s); e != api.OK {
		return e
	}
	if sectors, size := d.Shape(); !layout.HasRoom(g, sectors, size) {
		return api.ErrGeometry
	}
	return node.Fits(c, layout.Room(g))
}

// Open: the store that a disk holds, behind a crash too.
func Open(d *disk.Disk) (*Store, api.Errno) {
	p, e := pager.Open(d)
	if e != api.OK {
		return nil, e
	}
	last := p.Super()
	if last.Root == layout.None || last.Aux == layout.None {
		return nil, api.ErrNoStore
	}
	found := &Store{disk: d, pages: p, catalog: last.Aux, seq: last.Seq}
	if e := found.restore(); e != api.OK {
		return nil, powerOrDamage(e)
	}
	return found, api.OK
}

// restore: what the last commit holds, and what the log says came behind it, is committed anew. So the log of an epoch is gone on with by nobody but the store that began it.
func (s *Store) restore() api.Errno {
	last := s.pages.Super()
	if last.Gen > maxOpened {
		return api.ErrDamaged
	}
	f, e := s.pages.Get(last.Aux)
	if e != api.OK {
		return e
	}
	is := false
	if s.config, s.schema, is = catalogIn(f, layout.Room(s.pages.Geometry())); !is {
		return api.ErrDamaged
	}
	if s.tree, e = tree.Load(s.pages, s.schema, s.config, last.Root); e != api.OK {
		return e
	}
	if e := s.replay(); e != api.OK {
		return e
	}
	return s.commit(s.seq)
}

// replay: the calls of the log are done again, each just as when it was accepted, up to the first that is not the next one.
func (s *Store) replay() api.Errno {
	records, e := wal.Replay(s.disk, layout.LogAt, s.pages.Geometry().Log, s.pages.Super().Gen)
	if e != api.OK {
		return e
	}
	for _, record := range records {
		ms, is := messagesIn(record, s.schema, s.seq+1)
		if !is {
			break
		}
		if e := s.tree.Apply(ms...); e != api.OK {
			return e
		}
		s.seq++
	}
	return api.OK
}
