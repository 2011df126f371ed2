package shape_test

import (
	"bytes"
	"maps"
	"slices"
	"strings"
	"testing"

	"purlin/api"
	"purlin/geom"
	"purlin/group"
	"purlin/inode"
	"purlin/ptr"
	"purlin/record"
	"purlin/seal"
	"purlin/shape"
	"purlin/super"

	dirs "purlin/dir"
)

// draft is an image that is being made: what its sectors are to tell. The bits are worked out when it is laid, so that what is made wrong in it is wrong by itself, and not by its bits.
type draft struct {
	t       *testing.T
	g       api.Geometry
	ordered bool
	record  api.Record
	inodes  []api.Inode                    // by numbers, from 1 on
	tables  map[int][api.Fan]int           // pointer blocks by their sectors
	slots   map[int][api.Slots]api.Slot    // blocks of directories
	over    map[int][]byte                 // what stands in a sector, whatever it would tell
	odd     struct{ inodes, blocks []int } // of which the bits are to be wrong
	room    []int                          // the blocks that are still free
}

// drafted begins a draft with a root and nothing else.
func drafted(t *testing.T, g api.Geometry) *draft {
	t.Helper()
	d := &draft{t: t, g: g, inodes: make([]api.Inode, 1+geom.Inodes(g)), tables: map[int][api.Fan]int{}, slots: map[int][api.Slots]api.Slot{}, over: map[int][]byte{}}
	d.inodes[1] = api.Inode{Kind: api.KindDir, Links: 1}
	for s := range geom.Sectors(g) {
		if k, _ := geom.OfBlock(g, s); k >= 0 {
			d.room = append(d.room, s)
		}
	}
	return d
}

// take tells a block that is free till then: from either end by turns, so that no file's stand in a row.
func (d *draft) take() int {
	d.t.Helper()
	if len(d.room) == 0 {
		d.t.Fatal("the draft has no room")
	}
	at := 0
	if len(d.room)%2 == 0 {
		at = len(d.room) - 1
	}
	s := d.room[at]
	d.room = slices.Delete(d.room, at, at+1)
	return s
}

// table tells the pointer block that *p points to, a new one of zeros if there is none.
func (d *draft) table(p *int) int {
	if *p == 0 {
		*p = d.take()
		d.tables[*p] = [api.Fan]int{}
	}
	return *p
}

// point lets the k-th pointer of inode n be s.
func (d *draft) point(n, k, s int) {
	i := &d.inodes[n]
	switch {
	case k < 6:
		i.Direct[k] = s
	case k < 6+12:
		d.set(d.table(&i.Single), k-6, s)
	default:
		first := d.table(&i.Double)
		second := d.tables[first][(k-18)/12]
		d.set(first, (k-18)/12, d.table(&second))
		d.set(second, (k-18)%12, s)
	}
}

// set lets the k-th pointer of the pointer block at s be p.
func (d *draft) set(s, k, p int) {
	ps := d.tables[s]
	ps[k] = p
	d.tables[s] = ps
}

// at tells the k-th pointer of inode n.
func (d *draft) at(n, k int) int {
	i := d.inodes[n]
	switch {
	case k < 6:
		return i.Direct[k]
	case k < 6+12:
		return d.tables[i.Single][k-6]
	}
	return d.tables[d.tables[i.Double][(k-18)/12]][(k-18)%12]
}

// second tells the pointer block at the k-th pointer of Double's block.
func (d *draft) second(n, k int) int {
	return d.tables[d.inodes[n].Double][k]
}

// file makes inode n a file of data, with holes in the place of these blocks; it has no name as yet.
func (d *draft) file(n int, data []byte, holes ...int) {
	d.inodes[n] = api.Inode{Kind: api.KindFile, Size: len(data)}
	for k := 0; k*128 < len(data); k++ {
		if !slices.Contains(holes, k) {
			s := d.take()
			d.over[s] = sector(data[k*128:])
			d.point(n, k, s)
		}
	}
}

// link makes inode n a link.
func (d *draft) link(n int, target string) {
	d.file(n, []byte(target))
	d.inodes[n].Kind = api.KindLink
}

// dir makes inode n a directory of so many blocks without entries.
func (d *draft) dir(n, blocks int) {
	d.inodes[n] = api.Inode{Kind: api.KindDir}
	for range blocks {
		d.grow(n)
	}
}

// grow lets the directory n have one block more.
func (d *draft) grow(n int) {
	s := d.take()
	d.slots[s] = [api.Slots]api.Slot{}
	d.point(n, d.inodes[n].Size/128, s)
	d.inodes[n].Size += 128
}

// name lets an entry of the directory n, in the first slot that is free, name inode ino.
func (d *draft) name(n int, name string, ino int) {
	for k := 0; ; k++ {
		if k == d.inodes[n].Size/128 {
			d.grow(n)
		}
		s := d.at(n, k)
		ss := d.slots[s]
		for j := range ss {
			if ss[j].Ino == 0 {
				ss[j] = api.Slot{Ino: ino, Kind: d.inodes[ino].Kind, Name: name}
				d.slots[s] = ss
				d.inodes[ino].Links++
				return
			}
		}
	}
}

// entry tells where the entry of that name stands in the directory n: its block, its slot.
func (d *draft) entry(n int, name string) (int, int) {
	d.t.Helper()
	for k := range d.inodes[n].Size / 128 {
		for j, e := range d.slots[d.at(n, k)] {
			if e.Ino != 0 && e.Name == name {
				return d.at(n, k), j
			}
		}
	}
	d.t.Fatalf("inode %d has no entry %q", n, name)
	return 0, 0
}

// change changes the entry of that name in the directory n.
func (d *draft) change(n int, name string, how func(e *api.Slot)) {
	d.t.Helper()
	s, j := d.entry(n, name)
	ss := d.slots[s]
	how(&ss[j])
	d.slots[s] = ss
}

// unname takes the entry of that name in the directory n away, and its link.
func (d *draft) unname(n int, name string) {
	d.t.Helper()
	d.change(n, name, func(e *api.Slot) {
		d.inodes[e.Ino].Links--
		*e = api.Slot{}
	})
}

// isBlock tells whether s is a block.
func (d *draft) isBlock(s int) bool {
	k, _ := geom.OfBlock(d.g, s)
	return k >= 0
}

// pointed tells all blocks that are pointed to.
func (d *draft) pointed() map[int]int {
	all := map[int]int{}
	var follow func(n, p, deep int)
	follow = func(n, p, deep int) {
		if d.isBlock(p) {
			all[p] = n
		}
		if deep > 0 {
			for _, q := range d.tables[p] {
				follow(n, q, deep-1)
			}
		}
	}
	for n, i := range d.inodes {
		for _, p := range i.Direct {
			follow(n, p, 0)
		}
		follow(n, i.Single, 1)
		follow(n, i.Double, 2)
	}
	return all
}

// bits tells those of group k.
func (d *draft) bits(k int) ([]byte, []byte) {
	inodes, blocks := make([]byte, (d.g.Inodes+7)/8), make([]byte, (d.g.Blocks+7)/8)
	flip := func(b []byte, group, i int) {
		if group == k {
			b[i/8] ^= 1 << (i % 8)
		}
	}
	for n, i := range d.inodes {
		if i.Kind != 0 {
			group, i := geom.OfInode(d.g, n)
			flip(inodes, group, i)
		}
	}
	for s := range d.pointed() {
		group, i := geom.OfBlock(d.g, s)
		flip(blocks, group, i)
	}
	for _, n := range d.odd.inodes {
		group, i := geom.OfInode(d.g, n)
		flip(inodes, group, i)
	}
	for _, s := range d.odd.blocks {
		group, i := geom.OfBlock(d.g, s)
		flip(blocks, group, i)
	}
	return inodes, blocks
}

// image lays all of it.
func (d *draft) image() [][]byte {
	d.t.Helper()
	image := make([][]byte, geom.Sectors(d.g))
	for s := range image {
		image[s] = make([]byte, 128)
	}
	lay := func(s int, b []byte, code api.Errno) {
		d.t.Helper()
		if code != api.OK {
			d.t.Fatalf("the draft can't lay sector %d: %d", s, code)
		}
		image[s] = b
	}
	b, code := super.Lay(d.g, d.ordered)
	lay(0, b, code)
	b, code = record.Lay(d.record)
	lay(1, b, code)
	for k := range d.g.Groups {
		b, code = group.Lay(d.bits(k))
		lay(geom.Group(d.g, k), b, code)
	}
	for n := 1; n < len(d.inodes); n += 4 {
		s, _ := geom.Inode(d.g, n)
		b, code = inode.Lay([4]api.Inode(d.inodes[n : n+4]))
		lay(s, b, code)
	}
	for s, ps := range d.tables {
		b, code = ptr.Lay(ps)
		lay(s, b, code)
	}
	for s, ss := range d.slots {
		b, code = dirs.Lay(ss)
		lay(s, b, code)
	}
	for s, b := range d.over {
		image[s] = b
	}
	return image
}

// sector tells a sector that begins with b, zeros behind it.
func sector(b []byte) []byte {
	s := make([]byte, 128)
	copy(s, b)
	return s
}

// sealed tells a sealed sector.
func sealed(t *testing.T, kind byte, body []byte) []byte {
	t.Helper()
	b, code := seal.Seal(kind, body)
	if code != api.OK {
		t.Fatalf("Seal: %d", code)
	}
	return b
}

// fill tells so many bytes, none of them 0, drawn from a number.
func fill(size, from int) []byte {
	b := make([]byte, size)
	for i := range b {
		b[i] = byte(1 + (from*31+i*7+i/128)%255)
	}
	return b
}

// Inodes of a town.
const (
	root   = 1
	shelf  = 2  // a directory of five entries, in two blocks
	bare   = 3  // one without blocks
	file   = 4  // a file of three names, with a hole
	arrow  = 5  // a link of two names
	tower  = 6  // a file with pointer blocks, and holes in each
	deep   = 7  // a directory in the shelf, with a block of no entries ahead of the one that has some
	empty  = 8  // a file of no bytes
	rest   = 11 // a file in the deep directory
	last   = 24 // a file, in the last group
	vacant = 9  // free
)

// town begins a draft of a file system in which there is something of all kinds, and which is fine.
func town(t *testing.T) *draft {
	t.Helper()
	d := drafted(t, api.Geometry{Groups: 3, Inodes: 8, Blocks: 24})
	d.dir(shelf, 0)
	d.dir(bare, 0)
	d.dir(deep, 2)
	d.file(file, fill(300, 4), 1)
	d.link(arrow, "shelf/file")
	d.file(tower, fill(18*128+30*128+5, 6), lacking(48, 0, 5, 6, 9, 17, 18, 20, 29, 31, 48)...)
	d.file(empty, nil)
	d.file(rest, fill(128, 11))
	d.file(last, fill(1, 24))
	d.name(root, "shelf", shelf)
	d.name(root, "bare", bare)
	d.name(root, "file", file)
	d.name(root, "arrow", arrow)
	d.name(root, "tower", tower)
	d.name(root, "shelf-", empty)
	d.name(shelf, "deep", deep)
	d.name(shelf, "file", file)
	d.name(shelf, "arrow", arrow)
	d.name(shelf, "last", last)
	d.name(shelf, "again", file)
	d.name(deep, "rest", rest)
	// The first one of its blocks is left without entries.
	first, second := d.at(deep, 0), d.at(deep, 1)
	d.slots[first], d.slots[second] = d.slots[second], d.slots[first]
	return d
}

// lacking tells the numbers from 0 to most but these.
func lacking(most int, but ...int) []int {
	var all []int
	for k := range most + 1 {
		if !slices.Contains(but, k) {
			all = append(all, k)
		}
	}
	return all
}

// fine asks that an image is fine.
func fine(t *testing.T, what string, image [][]byte) {
	t.Helper()
	if !shape.Fine(image) {
		t.Errorf("%s: not fine", what)
	}
	if ns := shape.Walk(image); len(ns) == 0 {
		t.Errorf("%s: Walk tells none", what)
	}
}

// wrong asks that an image is not fine, so that nothing is told of it.
func wrong(t *testing.T, what string, image [][]byte) {
	t.Helper()
	if shape.Fine(image) {
		t.Errorf("%s: fine", what)
	}
	if ns := shape.Walk(image); len(ns) != 0 {
		t.Errorf("%s: Walk tells %v", what, ns)
	}
	if os := shape.Owners(image); len(os) != 0 {
		t.Errorf("%s: Owners tells %v", what, os)
	}
}

// fault is something that is done to a town.
type fault struct {
	what string
	how  func(d *draft)
}

// spoiled asks that none of these leaves a town fine, and lays each into an image of its own.
func spoiled(t *testing.T, fs ...fault) {
	t.Helper()
	for _, f := range fs {
		d := town(t)
		f.how(d)
		wrong(t, f.what, d.image())
	}
}

// harmless asks that each of these leaves a town fine.
func harmless(t *testing.T, fs ...fault) {
	t.Helper()
	for _, f := range fs {
		d := town(t)
		f.how(d)
		fine(t, f.what, d.image())
	}
}

// alike tells whether two lists of nodes are the same, a list of bytes nil or empty.
func alike(a, b []api.Node) bool {
	return slices.EqualFunc(a, b, func(x, y api.Node) bool {
		return x.Path == y.Path && x.Number == y.Number && x.Kind == y.Kind && x.Links == y.Links && bytes.Equal(x.Data, y.Data)
	})
}

// walks asks that Walk tells just these.
func walks(t *testing.T, what string, image [][]byte, want ...api.Node) {
	t.Helper()
	if got := shape.Walk(image); !alike(got, want) {
		t.Errorf("%s: Walk tells %v, not %v", what, got, want)
	}
}

// owns asks that Owners tells just these.
func owns(t *testing.T, what string, image [][]byte, want map[int]int) {
	t.Helper()
	if got := shape.Owners(image); !maps.Equal(got, want) {
		t.Errorf("%s: Owners tells %v, not %v", what, got, want)
	}
}

// letters tells a name of so many bytes.
func letters(long int) string {
	return strings.Repeat("n", long)
}
