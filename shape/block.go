package shape

import (
	"slices"

	"purlin/api"
	"purlin/dir"
	"purlin/geom"
	"purlin/inode"
	"purlin/path"
	"purlin/ptr"
)

// stands tells whether the root is a directory, and each inode by itself may stand in a fine image.
func (l *look) stands() bool {
	for _, f := range l.files {
		if !mayStand(f.Inode) {
			return false
		}
	}
	return l.files[api.Root].Kind == api.KindDir
}

// mayStand tells whether i may stand in a fine image, whatever its pointers are.
func mayStand(i api.Inode) bool {
	switch i.Kind {
	case api.KindFile:
		return i.Links >= 1
	case api.KindDir:
		return i.Links == 1 && i.Size%api.SectorSize == 0
	case api.KindLink:
		return i.Links >= 1 && i.Size >= 1 && i.Size <= api.MaxTarget
	}
	return true
}

// points follows all pointers: whether each leads to a block of its own, and to none beyond a file's size.
func (l *look) points() bool {
	l.owners = make([]int, len(l.image))
	for n := range l.files {
		if !l.follow(n) {
			return false
		}
	}
	return true
}

// follow finds the blocks of inode n; false, if one of its pointers may not be.
func (l *look) follow(n int) bool {
	f := &l.files[n]
	t, ok := l.tables(n)
	if !ok {
		return false
	}
	f.blocks = make([]int, inode.Need(f.Size))
	for k := range api.FileBlocks {
		p := t.pointer(k)
		if p == hole {
			continue
		}
		if k >= len(f.blocks) || !l.claim(n, p) {
			return false
		}
		f.blocks[k] = p
	}
	return true
}

// tables are the pointers by which a file's blocks are found: zeros for pointer blocks that it has not.
type tables struct {
	direct [api.Direct]int
	single [api.Fan]int
	second [api.Fan][api.Fan]int
}

// pointer tells that of a file's k-th block.
func (t *tables) pointer(k int) int {
	switch how, i, j := inode.Place(k); how {
	case 0:
		return t.direct[i]
	case 1:
		return t.single[i]
	default:
		return t.second[i][j]
	}
}

// tables reads the pointer blocks of inode n, which are its own then; false, if one may not be.
func (l *look) tables(n int) (tables, bool) {
	i := l.files[n].Inode
	t := tables{direct: i.Direct}
	var double [api.Fan]int
	var ok bool
	if t.single, ok = l.table(n, i.Single); !ok {
		return tables{}, false
	}
	if double, ok = l.table(n, i.Double); !ok {
		return tables{}, false
	}
	for k, p := range double {
		if t.second[k], ok = l.table(n, p); !ok {
			return tables{}, false
		}
	}
	return t, true
}

// table reads the pointer block to which p points, which is inode n's own then; false, if it may not be.
func (l *look) table(n, p int) ([api.Fan]int, bool) {
	if p == hole {
		return [api.Fan]int{}, true
	}
	if !l.claim(n, p) {
		return [api.Fan]int{}, false
	}
	ps, code := ptr.Read(l.image[p])
	return ps, code == api.OK && !ptr.Empty(ps)
}

// claim lets the block at s be inode n's own; false, if it is no block, or is pointed to already.
func (l *look) claim(n, s int) bool {
	if k, _ := geom.OfBlock(l.g, s); k < 0 || l.owners[s] != nobody {
		return false
	}
	l.owners[s] = n
	return true
}

// holds reads the blocks of all directories and links: whether none lacks one, and each holds what it should.
func (l *look) holds() bool {
	for n := range l.files {
		f := &l.files[n]
		if f.Kind == api.KindFile {
			continue
		}
		if slices.Contains(f.blocks, hole) || !l.enters(f) || !l.leads(f) {
			return false
		}
	}
	return true
}

// enters reads the entries of f, if it is a directory; false, if one of its blocks is none of a directory.
func (l *look) enters(f *file) bool {
	if f.Kind != api.KindDir {
		return true
	}
	for _, s := range f.blocks {
		slots, code := dir.Read(l.image[s])
		if code != api.OK {
			return false
		}
		for _, slot := range slots {
			if slot.Ino != nobody {
				f.entries = append(f.entries, slot)
			}
		}
	}
	return true
}

// leads tells whether f, if it is a link, tells a target that may be.
func (l *look) leads(f *file) bool {
	if f.Kind != api.KindLink {
		return true
	}
	_, _, code := path.Target(string(l.data(f)))
	return code == api.OK
}
