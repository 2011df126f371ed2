package tree

import (
	"bytes"
	"cmp"
	"slices"

	"purlin/api"
	"purlin/geom"
)

// Nodes tells all nodes by all their paths, by rising paths.
func (t *Tree) Nodes() []api.Node {
	if t.none() {
		return nil
	}
	ns := t.below(nil, "", t.root())
	ns[0].Path = "/"
	slices.SortFunc(ns, func(a, b api.Node) int { return cmp.Compare(a.Path, b.Path) })
	return ns
}

// Number tells the number of the node that the path p finds, of a link its own; 0.
func (t *Tree) Number(p string) int {
	if t.none() {
		return 0
	}
	n, code := t.find(p, true)
	if code != api.OK {
		return 0
	}
	return n.number
}

// Need tells how many blocks and how many inodes all nodes take, also those without a name.
func (t *Tree) Need() (int, int) {
	if t.none() {
		return 0, 0
	}
	blocks := 0
	for _, n := range t.nodes {
		blocks += n.blocks()
	}
	return blocks, len(t.nodes)
}

// Crowded tells whether a file system of g might have no room for what comes behind these files.
func (t *Tree) Crowded(g api.Geometry) bool {
	if t.none() {
		return false
	}
	blocks, inodes := t.Need()
	return 2*blocks+16 > geom.Blocks(g) || 2*inodes+2 > geom.Inodes(g)
}

// Same tells whether a and b are the same files: alike but for Numbers, and of one Number by the same paths.
func Same(a []api.Node, b []api.Node) bool {
	if len(a) != len(b) {
		return false
	}
	there, back := map[int]int{}, map[int]int{}
	for i, x := range a {
		y := b[i]
		if !alike(x, y) || !goWith(there, x.Number, y.Number) || !goWith(back, y.Number, x.Number) {
			return false
		}
	}
	return true
}

// alike tells whether two nodes differ in nothing but Number.
func alike(a, b api.Node) bool {
	return a.Path == b.Path && a.Kind == b.Kind && a.Links == b.Links && bytes.Equal(a.Data, b.Data)
}

// goWith tells whether x goes with y, by partners: it does from now on, if it goes with nothing as yet.
func goWith(partners map[int]int, x, y int) bool {
	z, ok := partners[x]
	if !ok {
		partners[x] = y
		return true
	}
	return z == y
}

// below tells n, whose path is p, and all that lies within it, behind ns.
func (t *Tree) below(ns []api.Node, p string, n *node) []api.Node {
	ns = append(ns, api.Node{Path: p, Number: n.number, Kind: n.kind, Links: n.names, Data: bytes.Clone(n.data)})
	for name, number := range n.entries {
		ns = t.below(ns, p+"/"+name, t.nodes[number])
	}
	return ns
}
