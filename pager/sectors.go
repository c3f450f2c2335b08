package pager

import (
	"arbor/api"
	"arbor/frame"
	"arbor/layout"
)

// blank: no super sector and no log of an earlier store is left. (That of generation 1 is written over by Format's commit.)
func (p *Pager) blank() api.Errno {
	sector := make([]byte, p.last.Geometry.Sector)
	if e := p.disk.Write(0, sector); e != api.OK {
		return e
	}
	for k := range p.last.Geometry.Log {
		if e := p.disk.Write(layout.LogAt+k, sector); e != api.OK {
			return e
		}
	}
	return api.OK
}

func (p *Pager) writeBlock(block int, f api.Frame) api.Errno {
	return p.write(layout.BlockAt(p.last.Geometry, block), p.last.Geometry.Per, f)
}

// write: a frame fills so many sectors from one on.
func (p *Pager) write(at, sectors int, f api.Frame) api.Errno {
	size := p.last.Geometry.Sector
	b, e := frame.Seal(f, sectors*size)
	if e != api.OK {
		return e
	}
	for k := range sectors {
		if e := p.disk.Write(at+k, b[k*size:(k+1)*size]); e != api.OK {
			return e
		}
	}
	return api.OK
}

func (p *Pager) readBlock(block int) (api.Frame, api.Errno) {
	at := layout.BlockAt(p.last.Geometry, block)
	var b []byte
	for k := range p.last.Geometry.Per {
		sector, e := p.disk.Read(at + k)
		if e != api.OK {
			return api.Frame{}, e
		}
		b = append(b, sector...)
	}
	return frame.Open(b)
}
