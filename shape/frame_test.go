package shape_test

import (
	"bytes"
	"fmt"
	"slices"
	"testing"

	"purlin/api"
	"purlin/geom"
	"purlin/group"
	"purlin/inode"
	"purlin/record"
	"purlin/super"
)

// The town that all faults are done to is fine, left in order or not; so is a file system of nothing but its root, of every geometry.
func TestFine(t *testing.T) {
	d := town(t)
	fine(t, "a town", d.image())
	d.ordered = true
	fine(t, "a town left in order", d.image())
	for groups := 1; groups <= 8; groups++ {
		for inodes := 4; inodes <= 32; inodes += 4 {
			for _, blocks := range []int{16, 17, 23, 24, 25, 63, 95, 96} {
				g := api.Geometry{Groups: groups, Inodes: inodes, Blocks: blocks}
				fine(t, fmt.Sprint(g), drafted(t, g).image())
			}
		}
	}
}

// Point 1: an image has sectors.
func TestNoSectors(t *testing.T) {
	wrong(t, "nil", nil)
	wrong(t, "no sectors", [][]byte{})
	for _, many := range []int{1, 2, 3, 20, 83, 842, 2048, 2049} {
		wrong(t, fmt.Sprint(many, " nil sectors"), make([][]byte, many))
		zeros := make([][]byte, many)
		for s := range zeros {
			zeros[s] = make([]byte, 128)
		}
		wrong(t, fmt.Sprint(many, " sectors of zeros"), zeros)
	}
}

// Point 1: there are as many sectors as the superblock tells.
func TestHowManySectors(t *testing.T) {
	image := town(t).image()
	for less := 1; less <= len(image); less++ {
		wrong(t, fmt.Sprint(less, " fewer"), image[:len(image)-less])
	}
	for more := 1; more <= 2050; more++ {
		image = append(image, make([]byte, 128))
		if more < 40 || more > 1900 && more%50 == 0 || len(image) >= 2047 && len(image) <= 2050 {
			wrong(t, fmt.Sprint(more, " more"), image)
		}
	}
	image = town(t).image()
	wrong(t, "the last one twice", append(slices.Clone(image), image[len(image)-1]))
	wrong(t, "one more of nil", append(slices.Clone(image), nil))
	wrong(t, "the first one twice", append([][]byte{image[0]}, image...))
	wrong(t, "without the first one", image[1:])
}

// Point 1: each sector has SectorSize bytes.
func TestSectorSizes(t *testing.T) {
	image := town(t).image()
	for s := range image {
		whole := image[s]
		for _, b := range [][]byte{nil, {}, whole[:1], whole[:127], append(bytes.Clone(whole), 0), append(bytes.Clone(whole), whole...)} {
			image[s] = b
			wrong(t, fmt.Sprintf("sector %d of %d bytes", s, len(b)), image)
		}
		image[s] = whole
	}
	fine(t, "all whole again", image)
}

// Point 1: sector 0 is a superblock of that geometry.
func TestSuperblock(t *testing.T) {
	image := town(t).image()
	whole := image[0]
	for k := range whole {
		image[0] = bytes.Clone(whole)
		image[0][k] ^= 1
		wrong(t, fmt.Sprint("byte ", k, " of the superblock"), image)
	}
	// 3 groups of 27 sectors each: others have as many in all, but nothing stands where it should then.
	for _, g := range []api.Geometry{{Groups: 2, Inodes: 8, Blocks: 24}, {Groups: 3, Inodes: 4, Blocks: 24}, {Groups: 3, Inodes: 8, Blocks: 23}, {Groups: 3, Inodes: 4, Blocks: 25}, {Groups: 3, Inodes: 12, Blocks: 23}, {Groups: 1, Inodes: 8, Blocks: 78}} {
		b, code := super.Lay(g, true)
		if code != api.OK {
			t.Fatal(code)
		}
		image[0] = b
		wrong(t, fmt.Sprint("a superblock of ", g), image)
	}
	image[0] = sealed(t, 'T', whole[1:124])
	wrong(t, "another kind", image)
	image[0] = make([]byte, 128)
	wrong(t, "zeros", image)
	image[0] = image[1]
	wrong(t, "the record in its place", image)
	image[0] = whole
	fine(t, "whole again", image)
}

// Point 1: sector 1 is a record that is not On.
func TestRecord(t *testing.T) {
	image := town(t).image()
	whole := image[1]
	for k := range whole {
		image[1] = bytes.Clone(whole)
		image[1][k] ^= 1
		wrong(t, fmt.Sprint("byte ", k, " of the record"), image)
	}
	for _, r := range []api.Record{
		{On: true, From: root, To: shelf, Ino: file, FromName: "file", ToName: "file"},
		{On: true, From: root, To: root, Ino: file, FromName: "gone", ToName: "file"},
		{On: true, From: 9, To: 9, Ino: 9, Old: 10, FromName: "x", ToName: "x"},
	} {
		b, code := record.Lay(r)
		if code != api.OK {
			t.Fatal(code)
		}
		image[1] = b
		wrong(t, fmt.Sprint("a record of ", r), image)
	}
	// Not On, but not zero: it may not be.
	image[1] = sealed(t, 'R', []byte{0, 0, 1})
	wrong(t, "a record that is half", image)
	image[1] = sealed(t, 'S', nil)
	wrong(t, "another kind", image)
	image[1] = make([]byte, 128)
	wrong(t, "zeros", image)
	image[1] = whole
	fine(t, "whole again", image)
}

// Point 2: the bits of each group can be read.
func TestUnreadBits(t *testing.T) {
	d := town(t)
	image := d.image()
	for k := range d.g.Groups {
		s := geom.Group(d.g, k)
		whole := image[s]
		body := whole[1:124]
		// Behind the bits of 8 inodes in 4 bytes, of 24 blocks in 12.
		for _, at := range []int{1, 3, 7, 15, 16, 122} {
			odd := bytes.Clone(body)
			odd[at] |= 1
			image[s] = sealed(t, 'G', odd)
			wrong(t, fmt.Sprintf("group %d: a bit behind its own, byte %d", k, at), image)
		}
		for at := range whole {
			image[s] = bytes.Clone(whole)
			image[s][at] ^= 1
			wrong(t, fmt.Sprintf("group %d: byte %d", k, at), image)
		}
		image[s] = sealed(t, 'H', body)
		wrong(t, fmt.Sprintf("group %d: another kind", k), image)
		image[s] = make([]byte, 128)
		wrong(t, fmt.Sprintf("group %d: zeros", k), image)
		image[s] = whole
	}
	fine(t, "whole again", image)
}

// Point 2: all sectors of inodes can be read, those too in which none is taken.
func TestUnreadInodes(t *testing.T) {
	d := town(t)
	image := d.image()
	for n := 1; n < len(d.inodes); n += 4 {
		s, _ := geom.Inode(d.g, n)
		whole := image[s]
		body := whole[1:124]
		for at := range whole {
			image[s] = bytes.Clone(whole)
			image[s][at] ^= 1
			wrong(t, fmt.Sprintf("sector %d: byte %d", s, at), image)
		}
		odd := bytes.Clone(body)
		odd[4*23] = 1
		image[s] = sealed(t, 'I', odd)
		wrong(t, fmt.Sprintf("sector %d: no zeros behind its inodes", s), image)
		for j := range 4 {
			odd := bytes.Clone(body)
			odd[j*23] = 4
			image[s] = sealed(t, 'I', odd)
			wrong(t, fmt.Sprintf("sector %d: a kind that there is not, place %d", s, j), image)
			if d.inodes[n+j].Kind == 0 {
				odd[j*23], odd[j*23+22] = 0, 1
				image[s] = sealed(t, 'I', odd)
				wrong(t, fmt.Sprintf("sector %d: a free one that is not zero, place %d", s, j), image)
			}
		}
		image[s] = sealed(t, 'J', body)
		wrong(t, fmt.Sprintf("sector %d: another kind", s), image)
		image[s] = make([]byte, 128)
		wrong(t, fmt.Sprintf("sector %d: zeros", s), image)
		image[s] = whole
	}
	fine(t, "whole again", image)
}

// Point 7: a bit too many, and one too few, of each inode and each block.
func TestOddBits(t *testing.T) {
	d := town(t)
	for n := 1; n < len(d.inodes); n++ {
		d.odd.inodes = []int{n}
		wrong(t, fmt.Sprintf("the bit of inode %d, of kind %d", n, d.inodes[n].Kind), d.image())
	}
	d.odd.inodes = nil
	taken := d.pointed()
	for s := range geom.Sectors(d.g) {
		if d.isBlock(s) {
			d.odd.blocks = []int{s}
			wrong(t, fmt.Sprintf("the bit of block %d, of inode %d", s, taken[s]), d.image())
		}
	}
	// As many bits as there should be, but not those.
	d.odd.blocks = []int{d.at(file, 0), d.room[0]}
	wrong(t, "another block's bit", d.image())
	d.odd.blocks, d.odd.inodes = nil, []int{last, last - 1}
	wrong(t, "another inode's bit", d.image())
	d.odd.inodes = nil
	fine(t, "all right again", d.image())
	for _, k := range []int{0, 2} {
		_, blocks := d.bits(k)
		if slices.Max(blocks) == 0 || slices.Min(blocks) == 255 {
			t.Fatalf("group %d of the town has no bits of both kinds: %v", k, blocks)
		}
	}
}

// Point 7: of groups whose bits end within a byte, and of the greatest ones, the last bits count too.
func TestLastBits(t *testing.T) {
	for _, g := range []api.Geometry{{Groups: 1, Inodes: 4, Blocks: 17}, {Groups: 2, Inodes: 12, Blocks: 33}, {Groups: 8, Inodes: 32, Blocks: 96}} {
		d := drafted(t, g)
		most, final := geom.Inodes(g), geom.First(g, g.Groups-1)+g.Blocks-1
		d.room = slices.DeleteFunc(d.room, func(s int) bool { return s == final })
		d.inodes[most] = api.Inode{Kind: api.KindFile, Size: 128}
		d.point(most, 0, final)
		d.over[final] = fill(128, 2)
		d.name(root, "f", most)
		fine(t, fmt.Sprint(g), d.image())
		d.odd.inodes = []int{most}
		wrong(t, fmt.Sprint(g, ": the last inode's bit"), d.image())
		d.odd.inodes, d.odd.blocks = nil, []int{final}
		wrong(t, fmt.Sprint(g, ": the last block's bit"), d.image())
		d.point(most, 0, 0)
		wrong(t, fmt.Sprint(g, ": the last block's bit, of a hole"), d.image())
	}
}

// What stands in blocks that are free does not matter.
func TestFreeBlocks(t *testing.T) {
	d := town(t)
	image := d.image()
	var of [4]api.Inode
	of[0] = api.Inode{Kind: api.KindDir, Links: 1}
	inodes, code := inode.Lay(of)
	if code != api.OK {
		t.Fatal(code)
	}
	bits, code := group.Lay([]byte{1}, []byte{1, 0})
	if code != api.OK {
		t.Fatal(code)
	}
	for k, s := range d.room {
		// Also what would be wrong if it were looked at: pointers to blocks that are taken, entries, a second superblock.
		image[s] = [][]byte{fill(128, k), image[d.inodes[tower].Single], image[d.at(root, 0)], inodes, bits, image[0], image[1]}[k%7]
	}
	fine(t, "free blocks of all kinds", image)
	walks(t, "free blocks of all kinds", image, townNodes()...)
	owns(t, "free blocks of all kinds", image, d.pointed())
}
