package shape_test

import (
	"fmt"
	"strings"
	"testing"

	"purlin/api"
	"purlin/geom"
)

// Point 3: Root is a directory.
func TestRoot(t *testing.T) {
	g := api.Geometry{Groups: 2, Inodes: 4, Blocks: 16}
	d := drafted(t, g)
	d.inodes[root] = api.Inode{}
	wrong(t, "a root that is free, and nothing else", d.image())
	d.file(root, nil)
	d.inodes[root].Links = 1
	wrong(t, "a root that is a file", d.image())
	d.link(root, "x")
	d.inodes[root].Links = 1
	wrong(t, "a root that is a link", d.image())
	d = drafted(t, g)
	d.inodes[root] = api.Inode{}
	d.inodes[2] = api.Inode{Kind: api.KindDir, Links: 1}
	wrong(t, "another directory in place of the root", d.image())
	// One that names itself has its entry, and there is no other.
	d.inodes[2].Links = 0
	d.name(2, "self", 2)
	wrong(t, "another directory that names itself", d.image())
	spoiled(t, fault{"a root of another kind", func(d *draft) { d.inodes[root].Kind = api.KindFile }})
}

// Point 3: of each inode that is not free Links is 1 at least.
func TestNoLinks(t *testing.T) {
	spoiled(t,
		fault{"a file without Links, and without a name", func(d *draft) { d.file(vacant, fill(10, 1)) }},
		fault{"an empty file without Links, and without a name", func(d *draft) { d.file(vacant, nil) }},
		fault{"a link without Links, and without a name", func(d *draft) { d.link(vacant, "x") }},
		fault{"a directory without Links, and without a name", func(d *draft) { d.dir(vacant, 0) }},
		fault{"a directory without Links that has a name", func(d *draft) { d.inodes[bare].Links = 0 }},
		fault{"a root without Links", func(d *draft) { d.inodes[root].Links = 0 }},
		fault{"a file without Links that has names", func(d *draft) { d.inodes[file].Links = 0 }},
	)
}

// Point 3: a link's Size is from 1 to MaxTarget.
func TestLinkSizes(t *testing.T) {
	for _, size := range []int{1, 2, 24, 50, 99, 100} {
		d := town(t)
		d.link(vacant, strings.Repeat("a/", 50)[:min(size, 40)]+strings.Repeat("/", size-min(size, 40)))
		d.name(bare, "l", vacant)
		fine(t, fmt.Sprint("a link of ", size), d.image())
	}
	for _, size := range []int{101, 102, 127, 128, 129, 1000} {
		spoiled(t, fault{fmt.Sprint("a link of ", size), func(d *draft) {
			d.link(vacant, strings.Repeat("/", size))
			d.name(bare, "l", vacant)
		}})
	}
	for _, size := range []int{0, 101, 128, 129, api.MaxFile} {
		spoiled(t, fault{fmt.Sprint("a link that tells it has ", size), func(d *draft) { d.inodes[arrow].Size = size }})
	}
	spoiled(t, fault{"a link of no bytes without a block", func(d *draft) { d.inodes[arrow].Size, d.inodes[arrow].Direct[0] = 0, 0 }})
}

// Point 3: a directory's Size is a multiple of SectorSize.
func TestDirectorySizes(t *testing.T) {
	for _, size := range []int{1, 2, 64, 127, 129, 255} {
		spoiled(t,
			fault{fmt.Sprint("a directory of ", size), func(d *draft) {
				// As many blocks as so many bytes take.
				for d.inodes[bare].Size < size {
					d.grow(bare)
				}
				d.inodes[bare].Size = size
			}},
		)
	}
	for blocks := range 20 {
		d := town(t)
		for range blocks {
			d.grow(bare)
		}
		fine(t, fmt.Sprint("a directory of blocks without entries: ", blocks), d.image())
		if blocks > 0 {
			d.inodes[bare].Size--
			wrong(t, fmt.Sprint("one byte less than blocks: ", blocks), d.image())
		}
	}
	spoiled(t, fault{"a root of some bytes more", func(d *draft) { d.inodes[root].Size -= 28 }})
}

// spots are places of pointers of the tower, by how they are changed to p.
func spots() []struct {
	what string
	set  func(d *draft, p int)
} {
	return []struct {
		what string
		set  func(d *draft, p int)
	}{
		{"Direct, the first", func(d *draft, p int) { d.inodes[tower].Direct[0] = p }},
		{"Direct, a hole", func(d *draft, p int) { d.inodes[tower].Direct[3] = p }},
		{"Direct, the last", func(d *draft, p int) { d.inodes[tower].Direct[5] = p }},
		{"Single's block, the first", func(d *draft, p int) { d.set(d.inodes[tower].Single, 0, p) }},
		{"Single's block, a hole", func(d *draft, p int) { d.set(d.inodes[tower].Single, 5, p) }},
		{"Single's block, the last", func(d *draft, p int) { d.set(d.inodes[tower].Single, 11, p) }},
		{"a block below Double's, the first", func(d *draft, p int) { d.set(d.second(tower, 0), 0, p) }},
		{"a block below Double's, the last", func(d *draft, p int) { d.set(d.second(tower, 0), 11, p) }},
		{"another block below Double's, a hole", func(d *draft, p int) { d.set(d.second(tower, 1), 4, p) }},
		{"the shelf's block", func(d *draft, p int) { d.inodes[shelf].Direct[0] = p }},
		{"the link's block", func(d *draft, p int) { d.inodes[arrow].Direct[0] = p }},
		{"the last file's block", func(d *draft, p int) { d.inodes[last].Direct[0] = p }},
		{"Single", func(d *draft, p int) { d.inodes[tower].Single = p }},
		{"Double", func(d *draft, p int) { d.inodes[tower].Double = p }},
		{"Double's block, the first", func(d *draft, p int) { d.set(d.inodes[tower].Double, 0, p) }},
		{"Double's block, the second", func(d *draft, p int) { d.set(d.inodes[tower].Double, 1, p) }},
	}
}

// Point 4: each pointer is 0 or a block that there is.
func TestPointersToNoBlock(t *testing.T) {
	for _, spot := range spots() {
		for s := 1; s < 100; s++ {
			if d := town(t); !d.isBlock(s) {
				spot.set(d, s)
				wrong(t, fmt.Sprint(spot.what, ": ", s), d.image())
			}
		}
		for _, s := range []int{255, 256, 842, 2047, 2048, 65535} {
			d := town(t)
			spot.set(d, s)
			wrong(t, fmt.Sprint(spot.what, ": ", s), d.image())
		}
	}
	// Those of other inodes' pointer blocks, of a directory and a link, would also be beyond their size.
	spoiled(t,
		fault{"a directory's Single", func(d *draft) { d.inodes[shelf].Single = 1 }},
		fault{"a link's Double", func(d *draft) { d.inodes[arrow].Double = 2 }},
	)
}

// Point 4: no block is pointed to twice.
func TestPointedToTwice(t *testing.T) {
	whole := town(t)
	for _, spot := range spots() {
		for s, n := range whole.pointed() {
			d := town(t)
			spot.set(d, s)
			if fmt.Sprint(d.inodes, d.tables) != fmt.Sprint(whole.inodes, whole.tables) {
				wrong(t, fmt.Sprintf("%s: block %d, inode %d's", spot.what, s, n), d.image())
			}
		}
	}
	spoiled(t,
		fault{"two direct ones", func(d *draft) { d.inodes[file].Direct[1] = d.inodes[file].Direct[0] }},
		fault{"a direct one, and one of Single's block", func(d *draft) { d.set(d.inodes[tower].Single, 1, d.inodes[tower].Direct[0]) }},
		fault{"two of Single's block", func(d *draft) { d.set(d.inodes[tower].Single, 1, d.at(tower, 6)) }},
		fault{"two of a block below Double's", func(d *draft) { d.set(d.second(tower, 0), 1, d.at(tower, 18)) }},
		fault{"one of either block below Double's", func(d *draft) { d.set(d.second(tower, 1), 0, d.at(tower, 18)) }},
		fault{"two of Double's block", func(d *draft) { d.set(d.inodes[tower].Double, 0, d.second(tower, 1)) }},
		fault{"Single and Double", func(d *draft) { d.inodes[tower].Single = d.inodes[tower].Double }},
		fault{"Single, and one of Double's block", func(d *draft) { d.set(d.inodes[tower].Double, 0, d.inodes[tower].Single) }},
		fault{"Double's block points to itself", func(d *draft) { d.set(d.inodes[tower].Double, 0, d.inodes[tower].Double) }},
		fault{"Single's block points to itself", func(d *draft) { d.set(d.inodes[tower].Single, 1, d.inodes[tower].Single) }},
		fault{"a pointer block that is a block of the file too", func(d *draft) { d.inodes[tower].Direct[1] = d.inodes[tower].Single }},
		fault{"two files' block", func(d *draft) { d.inodes[last].Direct[0] = d.inodes[rest].Direct[0] }},
		fault{"two files' pointer block", func(d *draft) {
			d.inodes[file].Size, d.inodes[file].Single = 7*128, d.inodes[tower].Single
		}},
		fault{"two directories' block, without entries", func(d *draft) {
			d.inodes[bare].Size, d.inodes[bare].Direct[0] = 128, d.at(deep, 0)
		}},
		fault{"two links' block", func(d *draft) {
			d.link(vacant, "shelf/file")
			d.inodes[vacant].Direct[0] = d.inodes[arrow].Direct[0]
			d.name(bare, "l", vacant)
		}},
	)
}

// Point 4: what Single, Double, and the pointers of Double's block point to are pointer blocks.
func TestNoPointerBlock(t *testing.T) {
	image := town(t).image()
	whole := town(t)
	odd := make([]byte, 25)
	odd[1], odd[24] = byte(whole.room[0]), 1
	kinds := map[string][]byte{
		"zeros": make([]byte, 128), "bytes": fill(128, 3), "a block of a directory": image[whole.at(root, 0)], "inodes": image[3], "a record": image[1],
		"another kind": sealed(t, 'Q', image[whole.inodes[tower].Single][1:124]), "no zeros behind the pointers": sealed(t, 'P', odd),
	}
	for what, b := range kinds {
		spoiled(t,
			fault{"Single: " + what, func(d *draft) { d.over[d.inodes[tower].Single] = b }},
			fault{"Double: " + what, func(d *draft) { d.over[d.inodes[tower].Double] = b }},
			fault{"the first below Double: " + what, func(d *draft) { d.over[d.second(tower, 0)] = b }},
			fault{"the last below Double: " + what, func(d *draft) { d.over[d.second(tower, 2)] = b }},
		)
	}
	// Of a directory too.
	d := town(t)
	for range 7 {
		d.grow(bare)
	}
	fine(t, "a directory of seven blocks", d.image())
	d.over[d.inodes[bare].Single] = make([]byte, 128)
	wrong(t, "a directory's Single: zeros", d.image())
}

// Point 4: no pointer block is Empty; without it the file is fine, as all that it would find is a hole.
func TestEmptyPointerBlock(t *testing.T) {
	g := api.Geometry{Groups: 1, Inodes: 4, Blocks: 30}
	for _, size := range []int{0, 7 * 128, 19 * 128, api.MaxFile} {
		d := drafted(t, g)
		d.inodes[2] = api.Inode{Kind: api.KindFile, Size: size}
		d.name(root, "f", 2)
		fine(t, fmt.Sprint("nothing but holes: ", size), d.image())
		d.table(&d.inodes[2].Single)
		wrong(t, fmt.Sprint("an Empty block of Single: ", size), d.image())
		d.inodes[2].Single = 0
		d.table(&d.inodes[2].Double)
		wrong(t, fmt.Sprint("an Empty block of Double: ", size), d.image())
		if size == api.MaxFile {
			for k := range 12 {
				second := 0
				d.set(d.inodes[2].Double, k, d.table(&second))
				wrong(t, fmt.Sprint("an Empty block below Double: ", k), d.image())
				d.set(second, k, d.take())
				fine(t, fmt.Sprint("one that is not Empty: ", k), d.image())
			}
		}
	}
	spoiled(t,
		fault{"an Empty one beside others", func(d *draft) {
			second := 0
			d.set(d.inodes[tower].Double, 3, d.table(&second))
		}},
		fault{"Single's block is Empty", func(d *draft) { d.tables[d.inodes[tower].Single] = [api.Fan]int{} }},
		fault{"Double's block is Empty", func(d *draft) { d.tables[d.inodes[tower].Double] = [api.Fan]int{} }},
		fault{"a block below Double's is Empty", func(d *draft) { d.tables[d.second(tower, 1)] = [api.Fan]int{} }},
	)
}

// Point 5: no pointer beyond Need of the Size is there: at each block of a file, with a Size that just reaches it and with one that just doesn't.
func TestPointerBeyondSize(t *testing.T) {
	for k := range api.FileBlocks {
		d := drafted(t, api.Geometry{Groups: 1, Inodes: 4, Blocks: 16})
		d.file(2, nil)
		d.name(root, "f", 2)
		d.point(2, k, d.take())
		for _, size := range []int{k*128 + 1, k*128 + 128, min(k*128+129, api.MaxFile), api.MaxFile} {
			d.inodes[2].Size = size
			fine(t, fmt.Sprintf("block %d of a file of %d", k, size), d.image())
		}
		for _, size := range []int{k * 128, max(k*128-1, 0), max(k*128-128, 0), 0} {
			d.inodes[2].Size = size
			wrong(t, fmt.Sprintf("block %d of a file of %d", k, size), d.image())
		}
	}
}

// Point 5: a file is each of the three kinds.
func TestPointerBeyondSizeOfOthers(t *testing.T) {
	for k := range api.FileBlocks {
		if k >= 1 {
			spoiled(t, fault{fmt.Sprint("a link's block ", k), func(d *draft) { d.point(arrow, k, d.take()) }})
		}
		if k >= 2 {
			spoiled(t, fault{fmt.Sprint("a directory's block ", k), func(d *draft) {
				s := d.take()
				d.slots[s] = [api.Slots]api.Slot{}
				d.point(deep, k, s)
			}})
		}
		spoiled(t, fault{fmt.Sprint("block of an empty directory ", k), func(d *draft) {
			s := d.take()
			d.slots[s] = [api.Slots]api.Slot{}
			d.point(bare, k, s)
		}})
	}
}

// Point 5: a directory has all blocks of its Size.
func TestDirectoryLacksBlock(t *testing.T) {
	const blocks = 6 + 12 + 13
	for k := range blocks {
		d := drafted(t, api.Geometry{Groups: 1, Inodes: 4, Blocks: 40})
		d.dir(2, blocks)
		d.name(root, "d", 2)
		if k == 0 {
			fine(t, "a directory of many blocks", d.image())
		}
		d.point(2, k, 0)
		if k == blocks-1 {
			// Its pointer block would be Empty else.
			d.set(d.inodes[2].Double, 1, 0)
		}
		wrong(t, fmt.Sprint("without block ", k), d.image())
	}
	spoiled(t,
		fault{"a directory of no blocks that tells of one", func(d *draft) { d.inodes[bare].Size = 128 }},
		fault{"a directory of no blocks that tells of as many as may be", func(d *draft) { d.inodes[bare].Size = api.MaxFile }},
		fault{"one more than there are", func(d *draft) { d.inodes[deep].Size += 128 }},
		fault{"one more than there are, of the root", func(d *draft) { d.inodes[root].Size += 128 }},
		fault{"the first one, which has no entries", func(d *draft) { d.inodes[deep].Direct[0] = 0 }},
	)
}

// Point 5: each block of a directory is a block of one.
func TestNoDirectoryBlock(t *testing.T) {
	image := town(t).image()
	whole := town(t)
	long := make([]byte, 123)
	long[122] = 1
	half := make([]byte, 28)
	half[3] = 1
	for what, b := range map[string][]byte{
		"zeros": make([]byte, 128), "bytes": fill(128, 3), "pointers": image[whole.inodes[tower].Single], "a record": image[1],
		"another kind": sealed(t, 'E', nil), "no zeros behind the slots": sealed(t, 'D', long), "a slot that is half free": sealed(t, 'D', half),
	} {
		spoiled(t,
			fault{"the first, without entries: " + what, func(d *draft) { d.over[d.at(deep, 0)] = b }},
			fault{"one of an empty directory: " + what, func(d *draft) { d.grow(bare); d.over[d.at(bare, 0)] = b }},
			fault{"one of the root more: " + what, func(d *draft) { d.grow(root); d.over[d.inodes[root].Direct[2]] = b }},
			fault{"by way of Single: " + what, func(d *draft) {
				for range 8 {
					d.grow(bare)
				}
				d.over[d.at(bare, 7)] = b
			}},
		)
	}
	harmless(t, fault{"blocks of slots that are free", func(d *draft) { d.grow(bare); d.over[d.at(bare, 0)] = sealed(t, 'D', nil) }})
}

// Point 5: a link has its one block.
func TestLinkLacksBlock(t *testing.T) {
	spoiled(t,
		fault{"no block", func(d *draft) { d.inodes[arrow].Direct[0] = 0 }},
		fault{"its block at the second place", func(d *draft) {
			d.inodes[arrow].Direct[0], d.inodes[arrow].Direct[1] = 0, d.inodes[arrow].Direct[0]
		}},
		fault{"two blocks", func(d *draft) { d.inodes[arrow].Direct[1] = d.take() }},
	)
}

// Point 5: the first Size bytes of a link's block are what path.Target can read; what stands behind them does not matter.
func TestLinkTargets(t *testing.T) {
	for _, target := range []string{"x", "/", ".", "..", "//", "a\x00", "\x00", "a\x00b", "\x00a", "\xff", letters(24), letters(25), "a/" + letters(24), "a/" + letters(25), letters(24) + "/",
		strings.Repeat("a/", 20), strings.Repeat("a/", 21), strings.Repeat("../", 20), strings.Repeat("../", 21), strings.Repeat("/.", 50), strings.Repeat("b", 100), strings.Repeat(letters(24)+"/", 4), strings.Repeat("\x00", 100)} {
		for _, behind := range []byte{0, 'b', '/'} {
			d := town(t)
			d.link(vacant, target)
			d.name(bare, "l", vacant)
			block := sector([]byte(target))
			for k := len(target); k < 128; k++ {
				block[k] = behind
			}
			d.over[d.at(vacant, 0)] = block
			if mayTell(target) {
				fine(t, fmt.Sprintf("a link to %q", target), d.image())
			} else {
				wrong(t, fmt.Sprintf("a link to %q", target), d.image())
			}
		}
	}
	// A size less takes what can't be read away.
	d := town(t)
	d.over[d.at(arrow, 0)] = sector([]byte("a/b\x00" + letters(30)))
	for size := range 101 {
		d.inodes[arrow].Size = size
		if size >= 1 && size <= 3 {
			fine(t, fmt.Sprint("a link of ", size), d.image())
		} else {
			wrong(t, fmt.Sprint("a link of ", size), d.image())
		}
	}
}

// mayTell tells whether a link may tell t, by the words of chapter 12.
func mayTell(t string) bool {
	if t == "" || len(t) > 100 || strings.ContainsRune(t, 0) {
		return false
	}
	parts := 0
	for _, part := range strings.Split(t, "/") {
		if len(part) > 24 {
			return false
		}
		if part != "" && part != "." {
			parts++
		}
	}
	return parts <= 20
}

// Points 3, 4 and 6: each inode counts, and each block, those at the ends of groups too.
func TestEveryInodeAndBlock(t *testing.T) {
	g := api.Geometry{Groups: 3, Inodes: 8, Blocks: 16}
	for n := 2; n <= geom.Inodes(g); n++ {
		d := drafted(t, g)
		d.file(n, fill(128, n))
		d.name(root, "f", n)
		fine(t, fmt.Sprint("inode ", n), d.image())
		d.inodes[n].Links = 2
		wrong(t, fmt.Sprint("inode ", n, " of two Links"), d.image())
		d.inodes[n].Links = 1
		for s := range geom.Sectors(g) + 4 {
			d.point(n, 0, s)
			k, _ := geom.OfBlock(g, s)
			if s == 0 || k >= 0 && s != d.at(root, 0) {
				fine(t, fmt.Sprintf("inode %d, block %d", n, s), d.image())
			} else {
				wrong(t, fmt.Sprintf("inode %d, block %d", n, s), d.image())
			}
		}
	}
}
