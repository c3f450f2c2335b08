package shell

import (
	"strconv"

	"arbor/api"
	"arbor/disk"
	"arbor/pager"
	"arbor/store"
	"arbor/value"
)

// storeLine: a new store on a new disk.
type storeLine struct {
	geometry api.Geometry
	config   api.Config
	schema   string
}

func (storeLine) read(l *line) command {
	return storeLine{
		geometry: api.Geometry{Sector: l.number(), Per: l.number(), Log: l.number(), Blocks: l.number()},
		config:   api.Config{Fanout: l.number(), Leaf: l.number(), Buffer: l.number()},
		schema:   l.rest(),
	}
}

func (c storeLine) play(s *session) string {
	d, st, e := c.create()
	s.use(d, st)
	return doneOr(e)
}

func (c storeLine) create() (*disk.Disk, *store.Store, api.Errno) {
	if e := pager.Check(c.geometry); e != api.OK {
		return nil, nil, e
	}
	schema, e := value.ParseSchema(c.schema)
	if e != api.OK {
		return nil, nil, e
	}
	d, e := disk.New(pager.Sectors(c.geometry), c.geometry.Sector)
	if e != api.OK {
		return nil, nil, e
	}
	st, e := store.Create(d, c.geometry, c.config, schema)
	if e != api.OK {
		return nil, nil, e
	}
	return d, st, api.OK
}

// openLine: the store that the disk holds.
type openLine struct{}

func (c openLine) read(*line) command { return c }

func (openLine) play(s *session) string {
	if s.disk == nil {
		return fault(api.ErrClosed)
	}
	st, e := store.Open(s.disk)
	s.use(s.disk, st)
	if e != api.OK {
		return fault(e)
	}
	return "open " + strconv.FormatUint(st.Seq(), 10)
}

// armLine: so many more writes go well.
type armLine struct {
	writes int
}

func (armLine) read(l *line) command {
	return armLine{writes: l.number()}
}

func (c armLine) play(s *session) string {
	if s.disk == nil {
		return fault(api.ErrClosed)
	}
	return doneOr(s.disk.Arm(c.writes))
}

// crashLine: the power goes, and comes back.
type crashLine struct {
	keep []bool
}

func (crashLine) read(l *line) command {
	return crashLine{keep: l.bits()}
}

func (c crashLine) play(s *session) string {
	if s.disk == nil {
		return fault(api.ErrClosed)
	}
	s.use(s.disk.Survive(c.keep), nil)
	return done
}

// syncLine: what was accepted is durable.
type syncLine struct{}

func (c syncLine) read(*line) command { return c }

func (syncLine) play(s *session) string {
	return doneOr(s.store.Sync())
}

// checkpointLine: likewise, and the log begins anew.
type checkpointLine struct{}

func (c checkpointLine) read(*line) command { return c }

func (checkpointLine) play(s *session) string {
	return doneOr(s.store.Checkpoint())
}

// auditLine: how many blocks of the durable bytes are bad.
type auditLine struct{}

func (c auditLine) read(*line) command { return c }

func (auditLine) play(s *session) string {
	_, size := s.disk.Shape()
	report, e := store.Audit(s.disk.Image(), size)
	if e != api.OK {
		return fault(e)
	}
	return "audit " + strconv.Itoa(len(report.Bad))
}
