package shape_test

import (
	"bytes"
	"fmt"
	"strings"
	"testing"

	"purlin/api"
)

// Point 6: each entry's Ino is an inode that is not free.
func TestEntryOfNoInode(t *testing.T) {
	for _, ino := range []int{vacant, 10, 23, 25, 26, 32, 255, 256, 257, 65535} {
		for kind := 1; kind <= 3; kind++ {
			spoiled(t,
				fault{fmt.Sprintf("an entry more, of inode %d, kind %d", ino, kind), func(d *draft) {
					d.grow(bare)
					d.slots[d.at(bare, 0)] = [api.Slots]api.Slot{2: {Ino: ino, Kind: kind, Name: "x"}}
				}},
				fault{fmt.Sprintf("one of the root more, of inode %d, kind %d", ino, kind), func(d *draft) {
					d.grow(root)
					d.slots[d.at(root, 2)] = [api.Slots]api.Slot{3: {Ino: ino, Kind: kind, Name: "x"}}
				}},
			)
		}
	}
	spoiled(t, fault{"a file that is free, and whose entry is there", func(d *draft) { d.inodes[empty] = api.Inode{} }})
}

// Point 6: each entry is of its file's Kind.
func TestEntryOfAnotherKind(t *testing.T) {
	for _, e := range []struct {
		dir  int
		name string
		kind int
	}{{root, "shelf", 2}, {root, "bare", 2}, {root, "file", 1}, {root, "arrow", 3}, {root, "tower", 1}, {root, "shelf-", 1}, {shelf, "deep", 2}, {shelf, "file", 1}, {shelf, "arrow", 3}, {shelf, "last", 1}, {shelf, "again", 1}, {deep, "rest", 1}} {
		for kind := 1; kind <= 3; kind++ {
			f := fault{fmt.Sprintf("%s of kind %d", e.name, kind), func(d *draft) { d.change(e.dir, e.name, func(s *api.Slot) { s.Kind = kind }) }}
			if kind == e.kind {
				harmless(t, f)
			} else {
				spoiled(t, f)
			}
		}
	}
}

// Point 6: no two names of a directory are alike, in one block or in two, of one file or of two.
func TestNamesAlike(t *testing.T) {
	d := town(t)
	d.dir(bare, 18+13)
	d.inodes[bare].Links = 1
	for _, k := range []int{0, 1, 5, 6, 17, 18, 30} {
		for _, j := range []int{0, 3} {
			if k == 0 && j == 0 {
				continue
			}
			put := func(name string) {
				first, other := d.at(bare, 0), d.at(bare, k)
				d.slots[first], d.slots[other] = [api.Slots]api.Slot{}, [api.Slots]api.Slot{}
				for s, e := range map[[2]int]api.Slot{{first, 0}: {Ino: vacant, Kind: 1, Name: "same"}, {other, j}: {Ino: vacant + 1, Kind: 1, Name: name}} {
					ss := d.slots[s[0]]
					ss[s[1]] = e
					d.slots[s[0]] = ss
				}
				d.inodes[vacant] = api.Inode{Kind: 1, Links: 1}
				d.inodes[vacant+1] = api.Inode{Kind: 1, Links: 1}
			}
			put("sama")
			fine(t, fmt.Sprintf("two names that differ, block %d, slot %d", k, j), d.image())
			put("same")
			if k == 0 {
				// No block of a directory has them, so that it has to be spelled by hand.
				s := d.at(bare, 0)
				body := make([]byte, 123)
				for at, e := range d.slots[s] {
					if e.Ino != 0 {
						copy(body[28*at:], append([]byte{0, byte(e.Ino), 1, 4}, e.Name...))
					}
				}
				delete(d.slots, s)
				d.over[s] = sealed(t, 'D', body)
			}
			wrong(t, fmt.Sprintf("two names alike, block %d, slot %d", k, j), d.image())
			delete(d.over, d.at(bare, 0))
			d.slots[d.at(bare, k)] = [api.Slots]api.Slot{}
		}
	}
	spoiled(t,
		fault{"one file by two names alike", func(d *draft) { d.change(shelf, "again", func(e *api.Slot) { e.Name = "file" }) }},
		fault{"two files", func(d *draft) { d.change(root, "shelf-", func(e *api.Slot) { e.Name = "shelf" }) }},
	)
	harmless(t,
		fault{"another name", func(d *draft) { d.change(shelf, "again", func(e *api.Slot) { e.Name = "File" }) }},
		fault{"names that begin alike", func(d *draft) { d.change(root, "shelf-", func(e *api.Slot) { e.Name = "shel" }) }},
		fault{"one name in two directories", func(d *draft) { d.change(deep, "rest", func(e *api.Slot) { e.Name = "file" }) }},
		fault{"names of all bytes", func(d *draft) {
			d.change(deep, "rest", func(e *api.Slot) { e.Name = "\x01\xff\xfe \n..." })
			d.change(shelf, "last", func(e *api.Slot) { e.Name = "..." })
		}},
	)
}

// Point 6: Root has no entry.
func TestEntryOfRoot(t *testing.T) {
	add := func(dir int) func(d *draft) {
		return func(d *draft) { d.name(dir, "up", root); d.inodes[root].Links = 1 }
	}
	spoiled(t, fault{"in itself", add(root)}, fault{"in the shelf", add(shelf)}, fault{"in an empty directory", add(bare)}, fault{"in the deep directory", add(deep)},
		fault{"in the shelf, counted", func(d *draft) { d.name(shelf, "up", root) }})
}

// Point 6: each other directory has one entry, and Links, the root's too, is 1.
func TestEntriesOfDirectories(t *testing.T) {
	spoiled(t,
		fault{"two entries", func(d *draft) { d.name(root, "bare2", bare); d.inodes[bare].Links = 1 }},
		fault{"two entries, two Links", func(d *draft) { d.name(root, "bare2", bare) }},
		fault{"two entries in two directories", func(d *draft) { d.name(deep, "bare", bare); d.inodes[bare].Links = 1 }},
		fault{"two entries, one of them in itself", func(d *draft) { d.name(bare, "self", bare); d.inodes[bare].Links = 1 }},
		fault{"two entries, one of them below itself", func(d *draft) { d.name(deep, "up", shelf); d.inodes[shelf].Links = 1 }},
		fault{"no entry", func(d *draft) { d.unname(root, "bare"); d.inodes[bare].Links = 1 }},
		fault{"no entry, of one that has entries", func(d *draft) { d.unname(shelf, "deep"); d.inodes[deep].Links = 1 }},
		fault{"no entry, of a further one", func(d *draft) { d.dir(last-1, 0); d.inodes[last-1].Links = 1 }},
		fault{"Links of 2", func(d *draft) { d.inodes[bare].Links = 2 }},
		fault{"Links of 65535", func(d *draft) { d.inodes[deep].Links = 65535 }},
		fault{"the root's Links of 2", func(d *draft) { d.inodes[root].Links = 2 }},
		fault{"the root's Links of 65535", func(d *draft) { d.inodes[root].Links = 65535 }},
	)
}

// Point 6: each other file has as many entries as its Links, 1 at least.
func TestEntriesOfFiles(t *testing.T) {
	for _, by := range []int{-1, 1, 2, 253, 256} {
		for n, least := range map[int]int{file: 3, arrow: 2, tower: 1, empty: 1, rest: 1, last: 1} {
			if least+by >= 0 {
				spoiled(t, fault{fmt.Sprintf("inode %d: Links by %d", n, by), func(d *draft) { d.inodes[n].Links += by }})
			}
		}
	}
	spoiled(t,
		fault{"an entry more", func(d *draft) { d.name(bare, "x", file); d.inodes[file].Links-- }},
		fault{"an entry more of a link", func(d *draft) { d.name(bare, "x", arrow); d.inodes[arrow].Links-- }},
		fault{"an entry less", func(d *draft) { d.unname(shelf, "again"); d.inodes[file].Links++ }},
		fault{"none, of a file", func(d *draft) { d.file(vacant, fill(200, 1)); d.inodes[vacant].Links = 1 }},
		fault{"none, of a link", func(d *draft) { d.link(vacant, "x"); d.inodes[vacant].Links = 1 }},
		fault{"one more of this, one less of that", func(d *draft) { d.change(shelf, "last", func(e *api.Slot) { e.Ino = rest }) }},
	)
	harmless(t,
		fault{"a name more", func(d *draft) { d.name(bare, "x", file) }},
		fault{"a name of a link more", func(d *draft) { d.name(bare, "x", arrow) }},
		fault{"a name less", func(d *draft) { d.unname(shelf, "again") }},
		fault{"of one of two names the other one", func(d *draft) {
			d.change(shelf, "last", func(e *api.Slot) { e.Ino = rest })
			d.change(deep, "rest", func(e *api.Slot) { e.Ino = last })
		}},
	)
}

// As many names as there may be: a file's Links goes beyond a byte.
func TestManyNames(t *testing.T) {
	d := drafted(t, api.Geometry{Groups: 2, Inodes: 4, Blocks: 96})
	d.file(2, fill(3, 9))
	want := []api.Node{{Path: "/", Number: root, Kind: api.KindDir, Links: 1}}
	for k := range 600 {
		d.name(root, fmt.Sprintf("%03d", k), 2)
		want = append(want, api.Node{Path: fmt.Sprintf("/%03d", k), Number: 2, Kind: api.KindFile, Links: 600, Data: fill(3, 9)})
	}
	fine(t, "a file of 600 names", d.image())
	walks(t, "a file of 600 names", d.image(), want...)
	for _, links := range []int{599, 601, 600 - 256, 600 + 256, 600 - 512, 1} {
		d.inodes[2].Links = links
		wrong(t, fmt.Sprint("600 names, Links of ", links), d.image())
	}
}

// Point 6: each directory can be reached from Root; one that lies in itself, or lies in one that lies in it, has its entry, but can't be.
func TestRings(t *testing.T) {
	for long := 1; long <= 5; long++ {
		d := town(t)
		for k := range long {
			d.dir(12+k, 0)
		}
		for k := range long {
			d.name(12+k, "next", 12+(k+1)%long)
		}
		d.name(12, "file", file)
		wrong(t, fmt.Sprint("a ring of ", long), d.image())
		// Opened, and named by the root, it is a row.
		d.unname(12+(long-1), "next")
		wrong(t, fmt.Sprint("a row without a name of ", long), d.image())
		d.name(root, "first", 12)
		fine(t, fmt.Sprint("a row of ", long), d.image())
	}
	spoiled(t,
		fault{"a directory moved into the one that lies in it", func(d *draft) {
			d.unname(root, "shelf")
			d.name(deep, "shelf", shelf)
		}},
		fault{"a directory moved into itself", func(d *draft) {
			d.unname(root, "bare")
			d.name(bare, "bare", bare)
		}},
		fault{"the root's files stand in a ring beside it", func(d *draft) {
			d.dir(12, 0)
			d.name(12, "self", 12)
			d.unname(root, "tower")
			d.name(12, "tower", tower)
		}},
	)
}

// Point 6: each path has at most MaxPath bytes: the last parts of a row of directories, by their lengths.
func TestLongPaths(t *testing.T) {
	for _, kind := range []int{api.KindFile, api.KindDir, api.KindLink} {
		for _, x := range []struct {
			bytes   int
			lengths []int
		}{
			{200, []int{24, 24, 24, 24, 24, 24, 24, 24}},
			{201, []int{24, 24, 24, 24, 24, 24, 24, 23, 1}},
			{202, []int{24, 24, 24, 24, 24, 24, 24, 24, 1}},
			{225, []int{24, 24, 24, 24, 24, 24, 24, 24, 24}},
			{200, []int{24, 24, 24, 24, 24, 24, 24, 1, 22}},
			{201, []int{24, 24, 24, 24, 24, 24, 24, 1, 23}},
			{200, []int{1, 24, 24, 24, 24, 24, 24, 24, 22}},
			{201, []int{1, 24, 24, 24, 24, 24, 24, 24, 23}},
			{200, []int{19, 19, 19, 19, 19, 19, 19, 19, 19, 19}},
			{201, []int{19, 19, 19, 19, 19, 19, 19, 19, 19, 20}},
			{201, []int{20, 19, 19, 19, 19, 19, 19, 19, 19, 19}},
			{200, []int{19, 19, 19, 19, 19, 19, 19, 19, 19, 17, 1}},
			{201, []int{19, 19, 19, 19, 19, 19, 19, 19, 19, 18, 1}},
			{200, []int{9, 9, 9, 9, 9, 9, 9, 9, 9, 9, 9, 9, 9, 9, 9, 9, 9, 9, 9, 9}},
			{201, []int{9, 9, 9, 9, 9, 9, 9, 9, 9, 9, 9, 9, 9, 9, 9, 9, 9, 9, 9, 10}},
		} {
			d, p := row(t, kind, x.lengths...)
			what := fmt.Sprintf("a path of %d bytes and %d parts to one of kind %d", len(p), len(x.lengths), kind)
			switch {
			case len(p) != x.bytes:
				t.Fatal(what)
			case x.bytes <= api.MaxPath:
				fine(t, what, d.image())
			default:
				wrong(t, what, d.image())
			}
		}
	}
}

// Point 6: each path has at most MaxParts parts.
func TestManyParts(t *testing.T) {
	for _, kind := range []int{api.KindFile, api.KindDir, api.KindLink} {
		for parts := 1; parts <= 25; parts++ {
			lengths := make([]int, parts)
			for k := range lengths {
				lengths[k] = 1
			}
			d, p := row(t, kind, lengths...)
			what := fmt.Sprintf("a path of %d parts to one of kind %d", parts, kind)
			if parts > api.MaxParts {
				wrong(t, what, d.image())
				continue
			}
			fine(t, what, d.image())
			if ns := namesOf(d.image()); ns[len(ns)-1] != p {
				t.Errorf("%s: Walk tells %q", what, ns)
			}
		}
	}
}

// A path that is too long is told, whatever stands ahead of it and behind it.
func TestTooFarBesideOthers(t *testing.T) {
	for at := range 9 {
		d := drafted(t, api.Geometry{Groups: 4, Inodes: 32, Blocks: 40})
		in := root
		for k := range 20 {
			d.dir(2+k, 0)
			for j := range 9 {
				n := 30 + 9*k + j
				if n >= len(d.inodes) {
					break
				}
				if j == at {
					d.name(in, "d", 2+k)
				}
				d.file(n, nil)
				d.name(in, fmt.Sprint(j), n)
			}
			if d.inodes[2+k].Links == 0 {
				d.name(in, "d", 2+k)
			}
			in = 2 + k
		}
		fine(t, fmt.Sprint("20 parts, place ", at), d.image())
		d.file(29, nil)
		d.name(in, "f", 29)
		wrong(t, fmt.Sprint("21 parts, place ", at), d.image())
	}
}

// row makes a row of directories whose names have these lengths, the last one of which is a file of a kind, and tells the path to it.
func row(t *testing.T, kind int, lengths ...int) (*draft, string) {
	t.Helper()
	d := drafted(t, api.Geometry{Groups: 1, Inodes: 32, Blocks: 96})
	in, p := root, ""
	for k, long := range lengths {
		n := 2 + k
		switch {
		case k < len(lengths)-1 || kind == api.KindDir:
			d.dir(n, 0)
		case kind == api.KindFile:
			d.file(n, fill(9, k))
		default:
			// A link's target is not gone after.
			d.link(n, strings.Repeat("/a", 20))
		}
		d.name(in, letters(long), n)
		in, p = n, p+"/"+letters(long)
	}
	return d, p
}

// A directory's entries may stand in any of its slots, and be taken away from any.
func TestEntriesAnywhere(t *testing.T) {
	const blocks = 6 + 2
	for k := range blocks {
		for j := range 4 {
			d := drafted(t, api.Geometry{Groups: 1, Inodes: 4, Blocks: 40})
			d.file(2, fill(9, 9))
			d.dir(3, blocks)
			d.name(root, "d", 3)
			var ss [api.Slots]api.Slot
			ss[j] = api.Slot{Ino: 2, Kind: api.KindFile, Name: "f"}
			d.slots[d.at(3, k)] = ss
			d.inodes[2].Links = 1
			fine(t, fmt.Sprintf("an entry in block %d, slot %d", k, j), d.image())
			walks(t, fmt.Sprintf("an entry in block %d, slot %d", k, j), d.image(),
				api.Node{Path: "/", Number: 1, Kind: api.KindDir, Links: 1}, api.Node{Path: "/d", Number: 3, Kind: api.KindDir, Links: 1}, api.Node{Path: "/d/f", Number: 2, Kind: api.KindFile, Links: 1, Data: bytes.Clone(fill(9, 9))})
		}
	}
}
