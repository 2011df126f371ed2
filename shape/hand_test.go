package shape_test

import (
	"sort"
	"strings"

	"purlin/api"
	"purlin/geom"
	"purlin/group"
	"purlin/inode"
	"purlin/path"
	"purlin/ptr"
	"purlin/record"
	"purlin/super"

	dirs "purlin/dir"
)

// byHand holds an image against the seven points one by one, each by its words and by itself, as often as it takes.
type byHand struct {
	image  [][]byte
	g      api.Geometry
	inodes map[int]api.Inode // those that are not free
	refs   []ref
	tables bool // all that should be pointer blocks are
	names  []named
}

// ref is a pointer that is not 0: of which inode, to which sector, and of which of its blocks (-1: of a pointer block).
type ref struct{ n, to, block int }

// named is an entry of a directory.
type named struct {
	dir int
	api.Slot
}

// seen looks at an image.
func seen(image [][]byte) (*byHand, bool) {
	h := &byHand{image: image, inodes: map[int]api.Inode{}, tables: true}
	if !h.first() || !h.second() {
		return h, false
	}
	for n, i := range h.inodes {
		for k, p := range i.Direct {
			h.refer(n, p, k, 0)
		}
		h.refer(n, i.Single, 6, 1)
		h.refer(n, i.Double, 18, 2)
	}
	return h, h.third() && h.fourth() && h.fifth() && h.sixth() && h.seventh()
}

// first is point 1.
func (h *byHand) first() bool {
	if len(h.image) < 1 || len(h.image) > 2048 {
		return false
	}
	for _, b := range h.image {
		if len(b) != 128 {
			return false
		}
	}
	g, _, code := super.Read(h.image[0])
	if code != api.OK || geom.Sectors(g) != len(h.image) {
		return false
	}
	h.g = g
	r, code := record.Read(h.image[1])
	return code == api.OK && !r.On
}

// second is point 2.
func (h *byHand) second() bool {
	for k := 0; k < h.g.Groups; k++ {
		if _, _, code := group.Read(h.image[geom.Group(h.g, k)], h.g.Inodes, h.g.Blocks); code != api.OK {
			return false
		}
	}
	for n := 1; n <= geom.Inodes(h.g); n++ {
		s, j := geom.Inode(h.g, n)
		is, code := inode.Read(h.image[s])
		if code != api.OK {
			return false
		}
		if is[j].Kind != 0 {
			h.inodes[n] = is[j]
		}
	}
	return true
}

// third is point 3.
func (h *byHand) third() bool {
	for _, i := range h.inodes {
		if i.Links < 1 || i.Kind == api.KindLink && (i.Size < 1 || i.Size > 100) || i.Kind == api.KindDir && i.Size%128 != 0 {
			return false
		}
	}
	return h.inodes[1].Kind == api.KindDir
}

// isBlock tells whether s is a block.
func (h *byHand) isBlock(s int) bool {
	for k := 0; k < h.g.Groups; k++ {
		if first := geom.First(h.g, k); s >= first && s < first+h.g.Blocks {
			return true
		}
	}
	return false
}

// refer keeps the pointer p of inode n, and all that stand so deep below it.
func (h *byHand) refer(n, p, block, deep int) {
	if p == 0 {
		return
	}
	if deep == 0 {
		h.refs = append(h.refs, ref{n, p, block})
		return
	}
	h.refs = append(h.refs, ref{n, p, -1})
	if !h.isBlock(p) {
		return
	}
	ps, code := ptr.Read(h.image[p])
	if code != api.OK || ptr.Empty(ps) {
		h.tables = false
		return
	}
	for k, q := range ps {
		if deep == 1 {
			h.refer(n, q, block+k, 0)
		} else {
			h.refer(n, q, block+12*k, 1)
		}
	}
}

// fourth is point 4.
func (h *byHand) fourth() bool {
	times := map[int]int{}
	for _, r := range h.refs {
		times[r.to]++
		if !h.isBlock(r.to) || times[r.to] > 1 {
			return false
		}
	}
	return h.tables
}

// block tells where the k-th block of inode n stands (0: nowhere).
func (h *byHand) block(n, k int) int {
	for _, r := range h.refs {
		if r.n == n && r.block == k {
			return r.to
		}
	}
	return 0
}

// fifth is point 5.
func (h *byHand) fifth() bool {
	for _, r := range h.refs {
		if r.block >= inode.Need(h.inodes[r.n].Size) {
			return false
		}
	}
	for n, i := range h.inodes {
		switch i.Kind {
		case api.KindDir:
			for k := 0; k < i.Size/128; k++ {
				s := h.block(n, k)
				if s == 0 {
					return false
				}
				ss, code := dirs.Read(h.image[s])
				if code != api.OK {
					return false
				}
				for _, e := range ss {
					if e.Ino != 0 {
						h.names = append(h.names, named{n, e})
					}
				}
			}
		case api.KindLink:
			s := h.block(n, 0)
			if s == 0 {
				return false
			}
			if _, _, code := path.Target(string(h.image[s][:i.Size])); code != api.OK {
				return false
			}
		}
	}
	return true
}

// sixth is point 6.
func (h *byHand) sixth() bool {
	times := map[int]int{}
	alike := map[string]int{}
	for _, e := range h.names {
		i, ok := h.inodes[e.Ino]
		if !ok || i.Kind != e.Kind {
			return false
		}
		times[e.Ino]++
		key := string(rune('0'+e.dir)) + "/" + e.Name
		alike[key]++
		if alike[key] > 1 {
			return false
		}
	}
	for n, i := range h.inodes {
		want := i.Links
		switch {
		case i.Kind == api.KindDir && i.Links != 1:
			return false
		case n == 1:
			want = 0
		}
		if times[n] != want {
			return false
		}
	}
	for n, i := range h.inodes {
		if _, ok := h.pathOf(n); i.Kind == api.KindDir && !ok {
			return false
		}
	}
	for _, e := range h.names {
		p, _ := h.pathOf(e.dir)
		if p += "/" + e.Name; len(p) > 200 || strings.Count(p, "/") > 20 {
			return false
		}
	}
	return true
}

// pathOf tells the path of a directory, of which each has one entry (of the root: nothing); false, if it does not come from the root.
func (h *byHand) pathOf(n int) (string, bool) {
	p := ""
	for range len(h.inodes) + 1 {
		if n == 1 {
			return p, true
		}
		for _, e := range h.names {
			if e.Ino == n {
				n, p = e.dir, "/"+e.Name+p
				break
			}
		}
	}
	return "", false
}

// seventh is point 7.
func (h *byHand) seventh() bool {
	pointed := h.owners()
	for k := 0; k < h.g.Groups; k++ {
		inodes, blocks, _ := group.Read(h.image[geom.Group(h.g, k)], h.g.Inodes, h.g.Blocks)
		for j := 0; j < h.g.Inodes; j++ {
			_, taken := h.inodes[1+k*h.g.Inodes+j]
			if (inodes[j/8]>>(j%8)&1 == 1) != taken {
				return false
			}
		}
		for j := 0; j < h.g.Blocks; j++ {
			_, taken := pointed[geom.First(h.g, k)+j]
			if (blocks[j/8]>>(j%8)&1 == 1) != taken {
				return false
			}
		}
	}
	return true
}

// owners tells the inode of each block that is pointed to.
func (h *byHand) owners() map[int]int {
	owners := map[int]int{}
	for _, r := range h.refs {
		owners[r.to] = r.n
	}
	return owners
}

// nodes tells all files by all their paths.
func (h *byHand) nodes() []api.Node {
	ns := []api.Node{{Path: "/", Number: 1, Kind: api.KindDir, Links: 1}}
	for _, e := range h.names {
		p, _ := h.pathOf(e.dir)
		i := h.inodes[e.Ino]
		n := api.Node{Path: p + "/" + e.Name, Number: e.Ino, Kind: i.Kind, Links: i.Links}
		if i.Kind != api.KindDir {
			for at := 0; at < i.Size; at++ {
				b := byte(0)
				if s := h.block(e.Ino, at/128); s != 0 {
					b = h.image[s][at%128]
				}
				n.Data = append(n.Data, b)
			}
		}
		ns = append(ns, n)
	}
	sort.Slice(ns, func(a, b int) bool { return ns[a].Path < ns[b].Path })
	return ns
}
