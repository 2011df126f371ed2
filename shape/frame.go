package shape

import (
	"purlin/api"
	"purlin/bits"
	"purlin/geom"
	"purlin/group"
	"purlin/inode"
	"purlin/record"
	"purlin/super"
)

// The sectors ahead of all groups.
const (
	superAt  = 0
	recordAt = 1
)

// begins reads the superblock and the record: whether the sectors are those of its geometry, and no rename is under way.
func (l *look) begins() bool {
	if len(l.image) == 0 {
		return false
	}
	g, _, code := super.Read(l.image[superAt])
	// No geometry has as many sectors as would be too many.
	if code != api.OK || geom.Sectors(g) != len(l.image) {
		return false
	}
	for _, b := range l.image {
		if len(b) != api.SectorSize {
			return false
		}
	}
	r, code := record.Read(l.image[recordAt])
	l.g = g
	return code == api.OK && !r.On
}

// reads reads the bits of all groups and all inodes.
func (l *look) reads() bool {
	for k := range l.g.Groups {
		inodes, blocks, code := group.Read(l.image[geom.Group(l.g, k)], l.g.Inodes, l.g.Blocks)
		if code != api.OK {
			return false
		}
		l.marks = append(l.marks, marks{inodes: inodes, blocks: blocks})
	}
	l.files = make([]file, api.Root)
	for n := api.Root; n <= geom.Inodes(l.g); n = len(l.files) {
		s, _ := geom.Inode(l.g, n)
		is, code := inode.Read(l.image[s])
		if code != api.OK {
			return false
		}
		for _, i := range is {
			l.files = append(l.files, file{Inode: i})
		}
	}
	return true
}

// marked tells whether the bits are those of the inodes and blocks that are taken.
func (l *look) marked() bool {
	for n := api.Root; n < len(l.files); n++ {
		k, i := geom.OfInode(l.g, n)
		if bits.Has(l.marks[k].inodes, i) == l.files[n].free() {
			return false
		}
	}
	for s, owner := range l.owners {
		k, i := geom.OfBlock(l.g, s)
		if k >= 0 && bits.Has(l.marks[k].blocks, i) == (owner == nobody) {
			return false
		}
	}
	return true
}
