package pager

import (
	"arbor/api"
	"arbor/frame"
)

// blank: no super sector and no log of an earlier store is left. (That of generation 1 is written over by Format's commit.)
func (p *Pager) blank() api.Errno {
	sector := make([]byte, p.last.geometry.Sector)
	if e := p.disk.Write(0, sector); e != api.OK {
		return e
	}
	for k := range p.last.geometry.Log {
		if e := p.disk.Write(logAt+k, sector); e != api.OK {
			return e
		}
	}
	return api.OK
}

func (p *Pager) writeBlock(block int, f api.Frame) api.Errno {
	return p.write(blockAt(p.last.geometry, block), p.last.geometry.Per, f)
}

// write: a frame fills so many sectors from one on.
func (p *Pager) write(at, sectors int, f api.Frame) api.Errno {
	size := p.last.geometry.Sector
	b, e := frame.Seal(f, sectors*size)
	if e != api.OK {
		return e
	}
	for k := range sectors {
		if e := p.disk.Write(at+k, b[k*size:(k+1)*size]); e != api.OK {
			return e
		}
	}
	return api.OK
}

func (p *Pager) readBlock(block int) (api.Frame, api.Errno) {
	at := blockAt(p.last.geometry, block)
	var b []byte
	for k := range p.last.geometry.Per {
		sector, e := p.disk.Read(at + k)
		if e != api.OK {
			return api.Frame{}, e
		}
		b = append(b, sector...)
	}
	return frame.Open(b)
}
