package tree

import (
	"arbor/api"
	"arbor/node"
	"arbor/nodepage"
)

// anyLevel: nothing above the root says of which level it is.
const anyLevel = 0

// read: the node in a page, where one of a level is due.
func (t *Tree) read(block, level int) (api.Node, api.Errno) {
	f, e := t.pages.Get(block)
	if e != api.OK {
		return api.Node{}, e
	}
	n, is := nodepage.Of(t.schema, f)
	if !is || level != anyLevel && n.Level != level {
		return api.Node{}, api.ErrDamaged
	}
	return n, api.OK
}

// put: a node in a page of its own. A tree's nodes always fit; what does not comes of pages that are no tree.
func (t *Tree) put(n api.Node) (int, api.Errno) {
	body, e := node.Encode(t.schema, n)
	if e != api.OK {
		return 0, api.ErrDamaged
	}
	return t.pages.Put(nodepage.Kind(n), body)
}
