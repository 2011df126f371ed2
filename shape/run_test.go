package shape_test

import (
	"fmt"
	"maps"
	"slices"
	"strings"
	"testing"

	"purlin/api"
	"purlin/geom"
	"purlin/shape"
	"purlin/tree"

	dirs "purlin/dir"
)

// draw draws numbers, the same ones in each run.
type draw struct{ state uint32 }

// below draws one from 0 to n less 1.
func (d *draw) below(n int) int {
	d.state = d.state*1664525 + 1013904223
	return int(uint64(d.state) * uint64(n) >> 32)
}

// one draws one of several.
func one[T any](d *draw, of ...T) T {
	return of[d.below(len(of))]
}

// grown draws a tree: files with holes, links, directories, several names, renames.
func grown(r *draw, many int) *tree.Tree {
	tr := tree.New()
	at := func() string {
		ns := tr.Nodes()
		p := strings.TrimSuffix(one(r, ns...).Path, "/")
		return p + "/" + one(r, "a", "b", "c", "a-", "a.b", "long-name-of-24-bytes-all", "z\xff")
	}
	any := func() string { return one(r, tr.Nodes()...).Path }
	for range many {
		switch r.below(10) {
		case 0, 1, 2, 3:
			a := tr.Do(api.Op{Kind: api.OpOpen, Path: at(), Flags: api.FCreate | api.FWrite})
			for range r.below(4) {
				data := fill(one(r, 1, 100, 128, 300, 700), r.below(1000))
				tr.Do(api.Op{Kind: api.OpPwrite, FD: a.N, Off: one(r, 0, 0, 100, 128, 700, 768, 2200, 2304, 5000, r.below(20000)), Data: data})
			}
			tr.Do(api.Op{Kind: api.OpClose, FD: a.N})
		case 4, 5:
			tr.Do(api.Op{Kind: api.OpMkdir, Path: at()})
		case 6:
			tr.Do(api.Op{Kind: api.OpSymlink, Path: one(r, "a", "/b", "../c", strings.Repeat("a/", 20)), To: at()})
		case 7:
			tr.Do(api.Op{Kind: api.OpLink, Path: any(), To: at()})
		case 8:
			tr.Do(api.Op{Kind: api.OpRename, Path: any(), To: at()})
		default:
			tr.Do(api.Op{Kind: api.OpUnlink, Path: any()})
		}
	}
	return tr
}

// laid drafts an image of the files of a tree, at inodes and in slots that are drawn.
func laid(t *testing.T, r *draw, tr *tree.Tree) *draft {
	t.Helper()
	d := drafted(t, api.Geometry{Groups: 8, Inodes: 4 * (4 + r.below(5)), Blocks: 96})
	inodes := map[int]int{1: root}
	for _, n := range tr.Nodes() {
		ino, ok := inodes[n.Number]
		if !ok {
			ino = 2
			for d.inodes[ino].Kind != 0 {
				ino = 2 + r.below(len(d.inodes)-2)
			}
			inodes[n.Number] = ino
			switch n.Kind {
			case api.KindDir:
				d.dir(ino, r.below(2))
			case api.KindLink:
				d.link(ino, string(n.Data))
			default:
				d.file(ino, n.Data, zeros(r, n.Data)...)
			}
		}
		if n.Path != "/" {
			cut := strings.LastIndex(n.Path, "/")
			in := inodes[tr.Number(n.Path[:max(cut, 1)])]
			if r.below(4) == 0 {
				d.grow(in)
			}
			d.name(in, n.Path[cut+1:], ino)
		}
	}
	return d
}

// zeros draws which of the blocks that hold nothing but zeros are holes.
func zeros(r *draw, data []byte) []int {
	var holes []int
	for k := 0; k*128 < len(data); k++ {
		if len(strings.Trim(string(data[k*128:min(k*128+128, len(data))]), "\x00")) == 0 && r.below(8) > 0 {
			holes = append(holes, k)
		}
	}
	return holes
}

// holds asks all three of an image, and holds what they tell against what is told by hand.
func holds(t *testing.T, what string, image [][]byte) bool {
	t.Helper()
	h, want := seen(image)
	if got := shape.Fine(image); got != want {
		t.Fatalf("%s: Fine tells %v", what, got)
	}
	if !want {
		wrong(t, what, image)
		return false
	}
	if got := shape.Walk(image); !alike(got, h.nodes()) {
		t.Fatalf("%s: Walk tells %v, not %v", what, got, h.nodes())
	}
	if got := shape.Owners(image); !maps.Equal(got, h.owners()) {
		t.Fatalf("%s: Owners tells %v, not %v", what, got, h.owners())
	}
	return true
}

// Drawn trees, laid: fine, and Walk tells the files that the tree tells.
func TestDrawnTrees(t *testing.T) {
	for seed := range 60 {
		r := &draw{state: uint32(seed)}
		tr := grown(r, 5+r.below(35))
		d := laid(t, r, tr)
		image := d.image()
		what := fmt.Sprint("seed ", seed)
		if !holds(t, what, image) {
			t.Fatalf("%s: not fine", what)
		}
		if !tree.Same(shape.Walk(image), tr.Nodes()) {
			t.Fatalf("%s: Walk tells %v, the tree %v", what, shape.Walk(image), tr.Nodes())
		}
		if !maps.Equal(shape.Owners(image), d.pointed()) {
			t.Fatalf("%s: Owners", what)
		}
	}
}

// pointer draws a pointer of an inode, or of a pointer block, and changes it.
func (r *draw) pointer(d *draft) {
	p := one(r, 0, 0, 1, r.below(geom.Sectors(d.g)+3), r.below(65536), one(r, d.room...), one(r, d.room...), one(r, slices.Sorted(maps.Keys(d.pointed()))...))
	i := &d.inodes[1+r.below(len(d.inodes)-1)]
	if i.Kind == 0 {
		i = &d.inodes[1+r.below(12)]
	}
	switch r.below(6) {
	case 0:
		i.Single = p
	case 1:
		i.Double = p
	case 2, 3:
		i.Direct[r.below(6)] = p
	default:
		if tables := slices.Sorted(maps.Keys(d.tables)); len(tables) > 0 {
			d.set(one(r, tables...), r.below(12), p)
		}
	}
	if i.Kind == 0 {
		*i = api.Inode{}
	}
}

// slot draws a slot, and changes it.
func (r *draw) slot(d *draft) {
	all := slices.Sorted(maps.Keys(d.slots))
	s, other := one(r, all...), one(r, all...)
	ss := d.slots[s]
	e := &ss[r.below(4)]
	switch r.below(6) {
	case 0:
		*e = d.slots[other][r.below(4)]
	case 1:
		*e = api.Slot{}
	case 2:
		e.Name = one(r, "a", "b", "c", "file", "shelf")
	case 3:
		e.Ino = 1 + r.below(40)
	case 4:
		e.Kind = 1 + r.below(3)
	default:
		n := 1 + r.below(12)
		*e = api.Slot{Ino: n, Kind: max(d.inodes[n].Kind, 1), Name: one(r, "x", "a", letters(24))}
	}
	if _, code := dirs.Lay(ss); code == api.OK {
		d.slots[s] = ss
	}
}

// inode draws an inode, and changes it.
func (r *draw) inode(d *draft) {
	n := 1 + r.below(12)
	i := &d.inodes[n]
	switch r.below(6) {
	case 0:
		i.Links = one(r, 0, 1, 2, 3, i.Links+1)
	case 1:
		i.Size = one(r, 0, 1, 127, 128, 129, 256, i.Size+1, i.Size+128, max(i.Size-1, 0), max(i.Size-128, 0), 768, 769, 2304, api.MaxFile, 100, 101)
	case 2:
		i.Kind = r.below(4)
	case 3:
		*i = api.Inode{}
	case 4:
		*i = d.inodes[1+r.below(12)]
	default:
		d.inodes[n], d.inodes[n+1] = d.inodes[n+1], d.inodes[n]
	}
	i.Size = min(i.Size, api.MaxFile)
	if i.Kind == 0 {
		*i = api.Inode{}
	}
}

// spoil draws something to be done to a draft.
func (r *draw) spoil(d *draft) {
	switch r.below(8) {
	case 0, 1:
		r.pointer(d)
	case 2, 3:
		r.slot(d)
	case 4, 5:
		r.inode(d)
	case 6:
		d.odd.inodes = append(d.odd.inodes, 1+r.below(len(d.inodes)-1))
	default:
		if s := one(r, d.room...); r.below(2) == 0 {
			d.odd.blocks = append(d.odd.blocks, s)
		} else {
			d.over[s] = fill(128, s)
		}
	}
}

// Drawn faults, one to three at once, done to towns: what all three tell is what is told by hand.
func TestDrawnFaults(t *testing.T) {
	told := map[bool]int{}
	for seed := range 5000 {
		r := &draw{state: uint32(seed) * 77}
		d := town(t)
		for range 1 + r.below(3) {
			r.spoil(d)
		}
		told[holds(t, fmt.Sprint("seed ", seed), d.image())]++
	}
	if told[true] < 200 || told[false] < 2000 {
		t.Errorf("told: %v", told)
	}
}

// Drawn bytes over images, and whole images of drawn bytes and of sectors that are mixed: the same.
func TestDrawnBytes(t *testing.T) {
	whole := town(t).image()
	for seed := range 2000 {
		r := &draw{state: uint32(seed) * 99}
		image := slices.Clone(whole)
		for range 1 + r.below(4) {
			s := r.below(len(image))
			image[s] = one(r, fill(128, r.below(99)), fill(r.below(200), 1), image[r.below(len(image))], make([]byte, 128), slices.Clone(image[s]))
			if len(image[s]) == 128 && r.below(2) == 0 {
				image[s] = slices.Clone(image[s])
				image[s][r.below(128)] ^= 1 << r.below(8)
			}
		}
		holds(t, fmt.Sprint("seed ", seed), image)
	}
}
