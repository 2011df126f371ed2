package shape_test

import (
	"fmt"
	"slices"
	"strings"
	"testing"

	"purlin/api"
	"purlin/shape"
)

// townNodes are the files of a town.
func townNodes() []api.Node {
	dir := func(p string, n int) api.Node { return api.Node{Path: p, Number: n, Kind: api.KindDir, Links: 1} }
	one := func(p string, n, kind, links int, data []byte) api.Node {
		return api.Node{Path: p, Number: n, Kind: kind, Links: links, Data: data}
	}
	cut := fill(300, 4)
	clear(cut[128:256])
	high := fill(18*128+30*128+5, 6)
	for _, k := range lacking(48, 0, 5, 6, 9, 17, 18, 20, 29, 31, 48) {
		clear(high[k*128:][:128])
	}
	const f, l = api.KindFile, api.KindLink
	// - and . stand ahead of /, by bytes.
	return []api.Node{
		dir("/", root), one("/arrow", arrow, l, 2, []byte("shelf/file")), dir("/bare", bare), one("/file", file, f, 3, cut), dir("/shelf", shelf), one("/shelf-", empty, f, 1, nil),
		one("/shelf/again", file, f, 3, cut), one("/shelf/arrow", arrow, l, 2, []byte("shelf/file")), dir("/shelf/deep", deep), one("/shelf/deep/rest", rest, f, 1, fill(128, 11)),
		one("/shelf/file", file, f, 3, cut), one("/shelf/last", last, f, 1, fill(1, 24)), one("/tower", tower, f, 1, high),
	}
}

// namesOf tells the paths that Walk tells.
func namesOf(image [][]byte) []string {
	var ps []string
	for _, n := range shape.Walk(image) {
		ps = append(ps, n.Path)
	}
	return ps
}

// Walk: all files by all their paths, with their inodes' numbers, Links and Data; Owners: of all blocks, pointer blocks too.
func TestTown(t *testing.T) {
	d := town(t)
	walks(t, "a town", d.image(), townNodes()...)
	owners := d.pointed()
	owns(t, "a town", d.image(), owners)
	for n, blocks := range map[int]int{root: 2, shelf: 2, bare: 0, file: 2, arrow: 1, tower: 10 + 1 + 1 + 3, deep: 2, empty: 0, rest: 1, last: 1} {
		many := 0
		for _, owner := range owners {
			if owner == n {
				many++
			}
		}
		if many != blocks {
			t.Errorf("inode %d has %d blocks, not %d", n, many, blocks)
		}
	}
	for _, s := range []int{d.inodes[tower].Single, d.inodes[tower].Double, d.second(tower, 0), d.second(tower, 1), d.second(tower, 2)} {
		if got := shape.Owners(d.image())[s]; got != tower {
			t.Errorf("the pointer block %d is inode %d's", s, got)
		}
	}
	for _, s := range []int{d.inodes[tower].Direct[0], d.inodes[shelf].Direct[0], d.inodes[arrow].Direct[0]} {
		if got := shape.Owners(d.image())[s]; got != owners[s] || got == 0 {
			t.Errorf("the block %d is inode %d's", s, got)
		}
	}
}

// A file system of nothing but its root.
func TestEmpty(t *testing.T) {
	d := drafted(t, api.Geometry{Groups: 1, Inodes: 4, Blocks: 16})
	walks(t, "an empty one", d.image(), api.Node{Path: "/", Number: 1, Kind: api.KindDir, Links: 1})
	owns(t, "an empty one", d.image(), nil)
	d.grow(root)
	walks(t, "a root of a block", d.image(), api.Node{Path: "/", Number: 1, Kind: api.KindDir, Links: 1})
	owns(t, "a root of a block", d.image(), map[int]int{d.inodes[root].Direct[0]: 1})
}

// Walk rises by the bytes of whole paths.
func TestRising(t *testing.T) {
	d := drafted(t, api.Geometry{Groups: 2, Inodes: 32, Blocks: 40})
	names := []string{"b", "a", "a-", "a.", "a0", "a!", "\xff", "\x01", "A", "é", "aa", " ", "a\x01", "..."}
	n := 2
	var want []string
	for _, name := range names {
		in := n
		d.dir(in, 0)
		d.name(root, name, in)
		want = append(want, "/"+name)
		for _, below := range []string{"z", "!", "\xfe"} {
			n++
			d.file(n, []byte(name))
			d.name(in, below, n)
			want = append(want, "/"+name+"/"+below)
		}
		n++
	}
	slices.Sort(want)
	want = append([]string{"/"}, want...)
	if got := namesOf(d.image()); !slices.Equal(got, want) {
		t.Errorf("Walk tells %q, not %q", got, want)
	}
	for _, node := range shape.Walk(d.image())[1:] {
		if node.Kind == api.KindFile && string(node.Data) != strings.Split(node.Path, "/")[1] {
			t.Errorf("%q has %q", node.Path, node.Data)
		}
	}
}

// Files of every size at which a block or a pointer block comes in, whole ones.
func TestSizes(t *testing.T) {
	var sizes []int
	for _, blocks := range []int{0, 1, 2, 5, 6, 7, 8, 17, 18, 19, 29, 30, 31, 41, 42, 43, 149, 150, 151, 161, 162} {
		sizes = append(sizes, blocks*128-1, blocks*128, blocks*128+1, blocks*128+64)
	}
	for _, size := range sizes {
		if size < 0 || size > api.MaxFile {
			continue
		}
		d := drafted(t, api.Geometry{Groups: 2, Inodes: 4, Blocks: 96})
		d.file(3, fill(size, size))
		d.name(root, "f", 3)
		what := fmt.Sprint("a file of ", size)
		walks(t, what, d.image(), api.Node{Path: "/", Number: 1, Kind: api.KindDir, Links: 1}, api.Node{Path: "/f", Number: 3, Kind: api.KindFile, Links: 1, Data: fill(size, size)})
		owns(t, what, d.image(), d.pointed())
		blocks := (size + 127) / 128
		many := blocks
		if blocks > 6 {
			many++
		}
		if blocks > 18 {
			many += 1 + (blocks-18+11)/12
		}
		if got := len(shape.Owners(d.image())); got != many+1 {
			t.Errorf("%s and the root have %d blocks, not %d", what, got, many+1)
		}
	}
}

// Holes are zeros: none but one block, at each place, and all but one.
func TestHoles(t *testing.T) {
	const size = api.MaxFile - 3
	whole := fill(size, 1)
	for k := range api.FileBlocks {
		d := drafted(t, api.Geometry{Groups: 4, Inodes: 4, Blocks: 96})
		d.file(2, whole, lacking(161, k)...)
		d.file(3, whole, k)
		d.name(root, "one", 2)
		d.name(root, "two", 3)
		one, two := make([]byte, size), slices.Clone(whole)
		block := one[k*128 : min(k*128+128, size)]
		copy(block, whole[k*128:])
		clear(two[k*128:][:len(block)])
		what := fmt.Sprint("block ", k)
		walks(t, what, d.image(), api.Node{Path: "/", Number: 1, Kind: api.KindDir, Links: 1},
			api.Node{Path: "/one", Number: 2, Kind: api.KindFile, Links: 1, Data: one}, api.Node{Path: "/two", Number: 3, Kind: api.KindFile, Links: 1, Data: two})
		owns(t, what, d.image(), d.pointed())
	}
	d := drafted(t, api.Geometry{Groups: 1, Inodes: 4, Blocks: 16})
	for k, size := range []int{1, 128, api.MaxFile} {
		d.inodes[2+k] = api.Inode{Kind: api.KindFile, Size: size}
		d.name(root, fmt.Sprint(k), 2+k)
	}
	walks(t, "nothing but holes", d.image(), api.Node{Path: "/", Number: 1, Kind: api.KindDir, Links: 1},
		api.Node{Path: "/0", Number: 2, Kind: api.KindFile, Links: 1, Data: make([]byte, 1)}, api.Node{Path: "/1", Number: 3, Kind: api.KindFile, Links: 1, Data: make([]byte, 128)}, api.Node{Path: "/2", Number: 4, Kind: api.KindFile, Links: 1, Data: make([]byte, api.MaxFile)})
}

// What stands behind a file's size in its last block is not told.
func TestBehindSize(t *testing.T) {
	d := drafted(t, api.Geometry{Groups: 1, Inodes: 4, Blocks: 40})
	d.file(2, fill(8*128, 5))
	d.name(root, "f", 2)
	for size := 8*128 - 127; size <= 8*128; size++ {
		d.inodes[2].Size = size
		walks(t, fmt.Sprint("cut to ", size), d.image(), api.Node{Path: "/", Number: 1, Kind: api.KindDir, Links: 1}, api.Node{Path: "/f", Number: 2, Kind: api.KindFile, Links: 1, Data: fill(8*128, 5)[:size]})
	}
}

// A file's bytes may be those of any other sector: they are not looked at.
func TestBytesOfAnyKind(t *testing.T) {
	d := town(t)
	image := d.image()
	for s := range image {
		e := town(t)
		e.over[e.at(rest, 0)] = image[s]
		fine(t, fmt.Sprint("the bytes of sector ", s), e.image())
		for _, n := range shape.Walk(e.image()) {
			if n.Number == rest && string(n.Data) != string(image[s]) {
				t.Errorf("the bytes of sector %d: Walk tells %v", s, n.Data)
			}
		}
	}
}

// Links: their targets, as they stand, whether they lead anywhere or in a ring; by several names.
func TestLinks(t *testing.T) {
	d := drafted(t, api.Geometry{Groups: 1, Inodes: 8, Blocks: 16})
	targets := []string{"a", "/", "../..//b", strings.Repeat("/", 100), "\xff"}
	for k, target := range targets {
		d.link(2+k, target)
		d.name(root, string(rune('a'+k)), 2+k)
	}
	d.name(root, "z", 3)
	want := []api.Node{{Path: "/", Number: 1, Kind: api.KindDir, Links: 1}}
	for k, target := range targets {
		want = append(want, api.Node{Path: "/" + string(rune('a'+k)), Number: 2 + k, Kind: api.KindLink, Links: 1, Data: []byte(target)})
	}
	want[2].Links = 2
	want = append(want, api.Node{Path: "/z", Number: 3, Kind: api.KindLink, Links: 2, Data: []byte("/")})
	walks(t, "links", d.image(), want...)
	owns(t, "links", d.image(), d.pointed())
}

// The greatest file system there may be, full of files.
func TestGreat(t *testing.T) {
	d := drafted(t, api.Geometry{Groups: 8, Inodes: 32, Blocks: 96})
	want := []api.Node{{Path: "/", Number: 1, Kind: api.KindDir, Links: 1}}
	d.dir(2, 162)
	d.name(root, "many", 2)
	want = append(want, api.Node{Path: "/many", Number: 2, Kind: api.KindDir, Links: 1})
	for n := 3; n <= 256; n++ {
		d.file(n, fill(60+n, n))
		if n == 3 {
			d.inodes[n] = api.Inode{Kind: api.KindFile, Size: api.MaxFile}
		}
	}
	const names = 162 * 4
	for k := range names {
		n := 3 + k%254
		d.name(2, fmt.Sprintf("%04d", k), n)
	}
	for k := range names {
		n := 3 + k%254
		data := fill(60+n, n)
		if n == 3 {
			data = make([]byte, api.MaxFile)
		}
		want = append(want, api.Node{Path: fmt.Sprintf("/many/%04d", k), Number: n, Kind: api.KindFile, Links: d.inodes[n].Links, Data: data})
	}
	image := d.image()
	fine(t, "a great one", image)
	walks(t, "a great one", image, want...)
	owns(t, "a great one", image, d.pointed())
	for range 500 {
		if !shape.Fine(image) {
			t.Fatal("a great one is not fine")
		}
	}
}
