package tree

import (
	"slices"

	"purlin/api"
	"purlin/path"
)

// above is the part that leads to the directory above.
const above = ".."

// place is one for an entry: a directory, a name in it, and the node that stands there (nil: none).
type place struct {
	dir   *node
	name  string
	there *node
}

// find tells the node that the path p finds. With itself a link is not followed that its last part is.
func (t *Tree) find(p string, itself bool) (*node, api.Errno) {
	left, code := path.Split(p)
	if code != api.OK {
		return nil, code
	}
	at := t.root()
links:
	for range api.MaxHops + 1 {
		for i, part := range left {
			next, code := t.step(at, part)
			if code != api.OK {
				return nil, code
			}
			behind := left[i+1:]
			if next.kind != api.KindLink || itself && len(behind) == 0 {
				at = next
				continue
			}
			// What a link tells was asked when it was made: no code can stand beside it.
			target, fromRoot, _ := path.Target(string(next.data))
			if fromRoot {
				at = t.root()
			}
			left = slices.Concat(target, behind)
			continue links
		}
		return at, api.OK
	}
	return nil, api.ErrLoop
}

// step tells the node to which one part leads from at.
func (t *Tree) step(at *node, part string) (*node, api.Errno) {
	switch {
	case at.kind != api.KindDir:
		return nil, api.ErrNotDir
	case part == above && at.above == 0:
		return at, api.OK
	case part == above:
		return t.nodes[at.above], api.OK
	}
	number, ok := at.entries[part]
	if !ok {
		return nil, api.ErrNone
	}
	return t.nodes[number], api.OK
}

// place finds the place of the path p.
func (t *Tree) place(p string) (place, api.Errno) {
	ahead, name, code := path.Last(p)
	if code != api.OK {
		return place{}, code
	}
	dir, code := t.find(ahead, false)
	switch {
	case code != api.OK:
		return place{}, code
	case dir.kind != api.KindDir:
		return place{}, api.ErrNotDir
	case t.reach(dir).with(name).tooFar():
		return place{}, api.ErrLong
	}
	// No node has the number 0 of a name that is not there.
	return place{dir: dir, name: name, there: t.nodes[dir.entries[name]]}, api.OK
}

// within tells whether dir is top, or lies within it.
func (t *Tree) within(dir, top *node) bool {
	for dir != top && dir.above != 0 {
		dir = t.nodes[dir.above]
	}
	return dir == top
}

// reach is how far a path goes: its bytes, and its parts.
type reach struct{ long, parts int }

// with is the reach of a name in the directory that r reaches.
func (r reach) with(name string) reach {
	return reach{long: r.long + len("/") + len(name), parts: r.parts + 1}
}

// tooFar tells whether no path may go as far as that.
func (r reach) tooFar() bool {
	return r.long > api.MaxPath || r.parts > api.MaxParts
}

// reach tells how far the path of dir goes from the root, without links and .. parts.
func (t *Tree) reach(dir *node) reach {
	var r reach
	for dir.above != 0 {
		r = r.with(dir.name)
		dir = t.nodes[dir.above]
	}
	return r
}

// overlong tells whether something within n would be too far, if n stood at r.
func (t *Tree) overlong(n *node, r reach) bool {
	for name, number := range n.entries {
		further := r.with(name)
		if further.tooFar() || t.overlong(t.nodes[number], further) {
			return true
		}
	}
	return false
}
