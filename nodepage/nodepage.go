// Package nodepage: nodes as pages: a leaf's page and an inner node's are each of a kind of their own.
package nodepage

import (
	"arbor/api"
	"arbor/node"
)

// Of: the node whose page a frame is, if it is one's.
func Of(s api.Schema, f api.Frame) (api.Node, bool) {
	n, e := node.Decode(s, f.Body)
	if e != api.OK || f.Kind != Kind(n) {
		return api.Node{}, false
	}
	return n, true
}

// Kind: of a node's page.
func Kind(n api.Node) byte {
	if n.Level == 1 {
		return api.KindLeaf
	}
	return api.KindInner
}
