package server_test

import (
	"bytes"
	"slices"
	"strings"
	"testing"

	"arbor/api"
	"arbor/disk"
	"arbor/drill"
	"arbor/pager"
	"arbor/store"
	"arbor/wire"
)

// spoiled: the same durable bytes with other ones in a block; nil, if there is no store any more.
func (k *desk) spoiled(block int) *desk {
	k.t.Helper()
	image, size := k.Disk.Image(), k.Geometry.Sector*k.Geometry.Per
	copy(image[(2+k.Geometry.Log)*k.Geometry.Sector+block*size:], bytes.Repeat([]byte{7}, size))
	d, e := disk.FromImage(image, k.Geometry.Sector)
	if e != api.OK {
		k.t.Fatalf("FromImage = %d", e)
	}
	st, e := store.Open(d)
	if e != api.OK {
		return nil
	}
	return deskOver(k.t, &drill.Shop{Schema: k.Schema, Config: k.Config, Geometry: k.Geometry, Disk: d, Store: st, Rows: k.Rows})
}

// mayBeDamaged: may a request be answered ErrDamaged? It may, if a page has to be read for it: for what is asked, and for a commit with changes that meets no conflict.
func (k *desk) mayBeDamaged(session int, r api.Request) bool {
	x := k.open[session]
	switch r.Op {
	case api.RGet, api.RScan, api.RQuery:
		return true
	case api.RPut, api.RDelete, api.RUpsert:
		return x == nil
	case api.RCommit:
		return x != nil && len(x.Changes) > 0 && !x.MeetsConflict()
	}
	return false
}

// attempt: a request is answered as the book says, or ErrDamaged, with nothing else; then nothing is read, and nothing changed.
func (k *desk) attempt(session int, r api.Request) api.Errno {
	k.t.Helper()
	may, was := k.mayBeDamaged(session, r), k.Store.Mode()
	got, e := k.server.Feed(session, k.part(r))
	if damaged := k.replyPart(api.Reply{Id: r.Id, Err: api.ErrDamaged}); may && bytes.Equal(got, damaged) {
		if r.Op == api.RCommit {
			k.open[session] = nil
		}
		return api.ErrDamaged
	}
	want := k.told(session, r, was)
	if e != api.OK || !bytes.Equal(got, k.replyPart(want)) {
		k.t.Fatalf("%v: over damage: session %d: %s: %s, %d, want %s", k.Config, session, k.shown(r), k.shownBytes(got), e, k.shownReply(want))
	}
	return want.Err
}

// W5, P25.8: over a damaged page a reply is that over the undamaged bytes, or ErrDamaged; the session and its open transaction go on.
func TestDamage(t *testing.T) {
	numbers := drill.Numbers(871)
	met := map[api.Errno]int{}
	for i, c := range drill.Measures()[:6] {
		sh := drill.GrownShop(drill.Schemas()[i%2], c, &numbers, 24)
		if e := sh.Store.Checkpoint(); e != api.OK {
			t.Fatalf("Checkpoint = %d", e)
		}
		p, e := pager.Open(sh.Disk.Survive(nil))
		if e != api.OK {
			t.Fatalf("pager.Open = %d", e)
		}
		base := deskOver(t, sh)
		for _, block := range drill.Pages(p) {
			k := base.spoiled(block)
			if k == nil {
				continue
			}
			w := newWalk(k, &numbers, 24, 3)
			for range 3 {
				w.connect()
			}
			for range 150 {
				met[k.attempt(w.session(), w.request())]++
			}
			for _, session := range w.numbers() {
				w.close(session)
				w.connect()
				k.answers(session, asks(api.RSeq), api.Reply{N: k.seq})
			}
		}
	}
	if met[api.OK] < 2000 || met[api.ErrDamaged] < 500 || met[api.ErrConflict] < 5 {
		t.Errorf("the replies said %v", met)
	}
}

// P25.4: a reply with an error has nothing else in it: looked at as bytes are read.
func TestErrorsAreAlone(t *testing.T) {
	numbers := drill.Numbers(872)
	sh := drill.GrownShop(drill.Schemas()[0], drill.Measures()[0], &numbers, 24)
	k := deskOver(t, sh)
	w := newWalk(k, &numbers, 24, 3)
	errors := 0
	for range 3 {
		w.connect()
	}
	for range 2000 {
		r := w.request()
		session, was := w.session(), k.Store.Mode()
		b, _ := k.server.Feed(session, k.part(r))
		k.told(session, r, was)
		reply, e := wire.DecodeReply(k.Schema, b)
		if e != api.OK || reply.Id != r.Id {
			t.Fatalf("%s: %s, %d", k.shown(r), k.shownBytes(b), e)
		}
		if reply.Err != api.OK {
			errors++
		}
		named := map[int]string{api.RGet: "row", api.RScan: "rows", api.RQuery: "rows value", api.RSeq: "n"}[r.Op]
		for _, x := range []struct {
			part string
			is   bool
		}{{"row", reply.Row.Here}, {"rows", len(reply.Rows) > 0}, {"value", reply.Value != api.Value{}}, {"n", reply.N != 0}} {
			if x.is && (reply.Err != api.OK || !slices.Contains(strings.Fields(named), x.part)) {
				t.Fatalf("%s: %s", k.shown(r), k.shownReply(reply))
			}
		}
	}
	if errors < 300 {
		t.Errorf("%d errors were answered", errors)
	}
}
