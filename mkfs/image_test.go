package mkfs_test

import (
	"bytes"
	"testing"

	"purlin/api"
	"purlin/disk"
	"purlin/geom"
	"purlin/group"
	"purlin/inode"
	"purlin/mkfs"
	"purlin/record"
	"purlin/shape"
	"purlin/super"
	"purlin/tree"
)

// spelled lays a sector out by hand: its kind, what its body begins with, zeros, and its sum as another program worked it out.
func spelled(kind byte, body string, sum ...byte) []byte {
	b := make([]byte, 124, 128)
	b[0] = kind
	copy(b[1:], body)
	return append(b, sum...)
}

// known tells whole images whose sums were worked out by another program: of the least geometry, and of one of two groups.
func known() map[api.Geometry][][]byte {
	zeros := func(n int) [][]byte {
		var bs [][]byte
		for range n {
			bs = append(bs, make([]byte, 128))
		}
		return bs
	}
	noRename := spelled('R', "", 0x8B, 0xB4, 0x56, 0x44)
	one, nothing := spelled('G', "\x01", 0x8B, 0x97, 0x35, 0xDA), spelled('G', "", 0x71, 0x7D, 0xCE, 0x0E)
	root, free := spelled('I', "\x02\x00\x01", 0xB6, 0x4A, 0x84, 0x00), spelled('I', "", 0xA9, 0x26, 0x03, 0xBB)
	least := append([][]byte{spelled('S', "PRL\x01\x01\x04\x10\x01", 0x98, 0xBB, 0x2D, 0x61), noRename, one, root}, zeros(16)...)
	two := append([][]byte{spelled('S', "PRL\x01\x02\x08\x14\x01", 0x48, 0x1B, 0xC6, 0x7E), noRename, one, root, free}, zeros(20)...)
	two = append(append(two, nothing, free, free), zeros(20)...)
	return map[api.Geometry][][]byte{geo(1, 4, 16): least, geo(2, 8, 20): two}
}

// P20.1: Image, of known images, sector by sector.
func TestImageKnown(t *testing.T) {
	for g, want := range known() {
		got := mkfs.Image(g)
		if len(got) != len(want) {
			t.Fatalf("%v: %d sectors, not %d", g, len(got), len(want))
		}
		for at := range want {
			if !bytes.Equal(got[at], want[at]) {
				t.Errorf("%v: sector %d: %v, not %v", g, at, got[at], want[at])
			}
		}
	}
}

// P20.1: Image, of every geometry that may be: as many sectors as there are, byte by byte as the chapters tell them.
func TestImageOfEveryGeometry(t *testing.T) {
	for _, g := range all() {
		image := mkfs.Image(g)
		if len(image) != sectors(g) || len(image) != geom.Sectors(g) {
			t.Fatalf("%v: %d sectors, not %d", g, len(image), sectors(g))
		}
		for at, want := range byHand(t, g) {
			if len(image[at]) != 128 || !bytes.Equal(image[at], want) {
				t.Fatalf("%v: sector %d: %v, not %v", g, at, image[at], want)
			}
		}
	}
}

// P20.1: Image, of every geometry that may be: fine, with nothing but the root, and none of its blocks anyone's.
func TestImageIsFineAndEmpty(t *testing.T) {
	empty := tree.New().Nodes()
	for _, g := range all() {
		image := mkfs.Image(g)
		if !shape.Fine(image) {
			t.Fatalf("%v: not fine", g)
		}
		ns := shape.Walk(image)
		if len(ns) != 1 || ns[0].Path != "/" || ns[0].Number != 1 || ns[0].Kind != api.KindDir || ns[0].Links != 1 || len(ns[0].Data) != 0 {
			t.Fatalf("%v: Walk tells %v", g, ns)
		}
		if !tree.Same(ns, empty) {
			t.Fatalf("%v: Walk tells %v, a new tree %v", g, ns, empty)
		}
		if owners := shape.Owners(image); len(owners) != 0 {
			t.Fatalf("%v: Owners tells %v", g, owners)
		}
	}
}

// P20.1: Image, sector by sector as the layers read them: the geometry, left in order; no rename; the root's bit and inode alone; blocks of zeros.
func TestImageAsTheLayersReadIt(t *testing.T) {
	for _, g := range some() {
		image := mkfs.Image(g)
		if got, ordered, code := super.Read(image[0]); got != g || !ordered || code != api.OK {
			t.Errorf("%v: the superblock: %v, %v, %d", g, got, ordered, code)
		}
		if r, code := record.Read(image[1]); r != (api.Record{}) || code != api.OK {
			t.Errorf("%v: the record: %v, %d", g, r, code)
		}
		for k := range g.Groups {
			inodes, blocks, code := group.Read(image[geom.Group(g, k)], g.Inodes, g.Blocks)
			want := make([]byte, (g.Inodes+7)/8)
			if k == 0 {
				want[0] = 1
			}
			if code != api.OK || !bytes.Equal(inodes, want) || !bytes.Equal(blocks, make([]byte, (g.Blocks+7)/8)) {
				t.Errorf("%v: group %d: %v, %v, %d", g, k, inodes, blocks, code)
			}
			for s := geom.First(g, k); s < geom.First(g, k)+g.Blocks; s++ {
				if !bytes.Equal(image[s], make([]byte, 128)) {
					t.Errorf("%v: block %d: %v", g, s, image[s])
				}
			}
		}
		for n := 1; n <= g.Groups*g.Inodes; n++ {
			s, place := geom.Inode(g, n)
			is, code := inode.Read(image[s])
			want := api.Inode{}
			if n == 1 {
				want = api.Inode{Kind: api.KindDir, Links: 1}
			}
			if code != api.OK || is[place] != want {
				t.Errorf("%v: inode %d: %v, %d", g, n, is[place], code)
			}
		}
	}
}

// P20.1: Image, of a geometry that may not be: none.
func TestImageOfNone(t *testing.T) {
	for _, g := range none() {
		if image := mkfs.Image(g); len(image) != 0 {
			t.Errorf("%v: %d sectors", g, len(image))
		}
	}
}

// P20.1: Image tells what a disk takes as it is, and what lasts on it.
func TestImageAsADisk(t *testing.T) {
	for _, g := range some() {
		d := disk.Load(mkfs.Image(g)...)
		if d == nil {
			t.Fatalf("%v: no disk of it", g)
		}
		newly(t, "loaded", d, g)
	}
}
