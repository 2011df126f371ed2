package tree_test

import (
	"strings"
	"testing"

	"purlin/api"
	"purlin/tree"
)

// P14.1: a path is found part by part, from the root on.
func TestFind(t *testing.T) {
	tr := tree.New()
	goes(t, tr, mkdir("/a"), mkdir("/a/b"), mkdir("/a/b/c"))
	makes(t, tr, "/a/b/f", "12345")
	tells(t, tr, stat("/"), directory(1))
	tells(t, tr, stat("/a/b"), directory(2))
	tells(t, tr, stat("/a/b/f"), file(5, 1))
	for _, p := range []string{"//a//b///f", "/a/./b/././f/", "/./a/b/f/.", "/a/../a/b/f", "/a/b/c/../f", "/a/b/c/../../b/c/../f", "/a/b/f/////"} {
		tells(t, tr, stat(p), file(5, 1))
		tells(t, tr, lstat(p), file(5, 1))
	}
	for _, p := range []string{"/x", "/a/x", "/a/b/c/f", "/b", "/a/b/x/..", "/x/../a", "/A", "/a/b/f1", "/a/b/F"} {
		fails(t, tr, stat(p), api.ErrNone)
	}
	// Also of .. of a file: it is gone through. The directory is asked ahead of the part.
	for _, p := range []string{"/a/b/f/x", "/a/b/f/..", "/a/b/f/../f", "/a/b/f/x/y", "/a/b/c/../f/x"} {
		fails(t, tr, stat(p), api.ErrNotDir)
		fails(t, tr, lstat(p), api.ErrNotDir)
	}
}

// P14.1: the directory above the root is the root.
func TestAboveRoot(t *testing.T) {
	tr := tree.New()
	goes(t, tr, mkdir("/a"))
	makes(t, tr, "/f", "123")
	tells(t, tr, stat("/.."), directory(2))
	tells(t, tr, stat("/../.."), directory(2))
	tells(t, tr, stat("/../../f"), file(3, 1))
	tells(t, tr, stat("/a/../../../f"), file(3, 1))
	tells(t, tr, readdir("/a/../.."), names("a", "f"))
	goes(t, tr, mkdir("/../../b"), symlink("../../../f", "/a/l"), symlink("/../../a", "/m"))
	lists(t, tr, "/", "/a", "/a/l", "/b", "/f", "/m")
	tells(t, tr, stat("/a/l"), file(3, 1))
	tells(t, tr, readdir("/m"), names("l"))
}

// P14.1: a directory that has no name any more is told of no path, and another one of its name is another one.
func TestNameless(t *testing.T) {
	tr := tree.New()
	goes(t, tr, mkdir("/a"), mkdir("/a/b"), symlink("/a/b", "/l"))
	fd := opened(t, tr, "/a/b", 0)
	goes(t, tr, rmdir("/a/b"))
	for _, p := range []string{"/a/b", "/a/b/..", "/l", "/l/.."} {
		fails(t, tr, stat(p), api.ErrNone)
	}
	for _, p := range []string{"/a/b/x", "/l/x", "/a/b/../x"} {
		fails(t, tr, mkdir(p), api.ErrNone)
		fails(t, tr, open(p, api.FCreate), api.ErrNone)
	}
	fails(t, tr, read(fd, 1), api.ErrIsDir)
	goes(t, tr, fsync(fd), mkdir("/a/b"), mkdir("/a/b/x"))
	tells(t, tr, stat("/l/.."), directory(1))
	tells(t, tr, readdir("/l"), names("x"))
	fails(t, tr, read(fd, 1), api.ErrIsDir)
	goes(t, tr, shut(fd))
	tells(t, tr, readdir("/a/b"), names("x"))

	// Also one that another one replaced.
	goes(t, tr, mkdir("/e"))
	fd = opened(t, tr, "/e", 0)
	goes(t, tr, rename("/a/b", "/e"))
	tells(t, tr, readdir("/e/.."), names("a", "e", "l"))
	tells(t, tr, readdir("/e"), names("x"))
	goes(t, tr, shut(fd))
	tells(t, tr, readdir("/e"), names("x"))
}

// P14.1: .. is of where a directory stands now.
func TestAboveMoved(t *testing.T) {
	tr := tree.New()
	goes(t, tr, mkdir("/a"), mkdir("/a/b"), mkdir("/a/b/c"), mkdir("/d"), mkdir("/d/e"))
	tells(t, tr, readdir("/a/b/c/../.."), names("b"))
	goes(t, tr, rename("/a/b", "/d/e/b"))
	tells(t, tr, readdir("/d/e/b/c/../.."), names("b"))
	tells(t, tr, readdir("/d/e/b/c/../../.."), names("e"))
	fails(t, tr, stat("/a/b"), api.ErrNone)
	goes(t, tr, rename("/d/e/b/c", "/c"))
	tells(t, tr, readdir("/c/.."), names("a", "c", "d"))
}

// P14.1: path.Split's error is told first.
func TestNoPath(t *testing.T) {
	tr := tree.New()
	makes(t, tr, "/f", "")
	for p, code := range map[string]api.Errno{
		"": api.ErrArg, "a": api.ErrArg, "a/b": api.ErrArg, "./a": api.ErrArg, "/a\x00": api.ErrArg, "\x00": api.ErrArg,
		"/f/\x00": api.ErrArg, "/x/" + long('y', 25): api.ErrLong, "/f/" + long('y', 25): api.ErrLong,
		strings.Repeat("/", 201): api.ErrLong, strings.Repeat("/a", 21): api.ErrLong, strings.Repeat("/..", 21): api.ErrLong,
	} {
		for _, o := range []api.Op{open(p, 0), open(p, api.FCreate), mkdir(p), rmdir(p), unlink(p), link(p, "/g"), link("/f", p), symlink("x", p),
			readlink(p), rename(p, "/g"), rename("/f", p), stat(p), lstat(p), readdir(p)} {
			fails(t, tr, o, code)
		}
		if n := tr.Number(p); n != 0 {
			t.Errorf("Number(%q): %d", p, n)
		}
	}
	tells(t, tr, stat(strings.Repeat("/", 200)), directory(1))
	tells(t, tr, stat(strings.Repeat("/..", 20)), directory(1))
	tells(t, tr, stat(strings.Repeat("/..", 19)+"/f"), file(0, 1))
	fails(t, tr, stat(strings.Repeat("/a", 20)), api.ErrNone)
}

// P14.1: a link is followed, wherever it stands in a path, and but where the page says 'itself' as its last part.
func TestLinks(t *testing.T) {
	tr := tree.New()
	goes(t, tr, mkdir("/a"), mkdir("/a/b"), mkdir("/c"))
	makes(t, tr, "/a/b/f", "123456")
	makes(t, tr, "/f", "1")
	goes(t, tr,
		symlink("/a/b", "/c/whole"),
		symlink("../a/b", "/c/part"),
		symlink("f", "/a/b/beside"),
		symlink("/f", "/a/b/far"),
		symlink("whole/f", "/c/through"),
		symlink("/", "/c/root"),
		symlink(".", "/c/here"),
		symlink("..", "/c/above"),
		symlink("./../a/b/./f/", "/c/slash"),
		symlink("nothing", "/c/none"),
		symlink("/f/x", "/c/file"))
	for p, want := range map[string]api.Answer{
		"/c/whole":               directory(3),
		"/c/whole/f":             file(6, 1),
		"/c/part/f":              file(6, 1),
		"/c/part/beside":         file(6, 1),
		"/c/part/far":            file(1, 1),
		"/c/through":             file(6, 1),
		"/c/root/f":              file(1, 1),
		"/c/root":                directory(3),
		"/c/here/here/here/part": directory(3),
		"/c/here":                directory(9),
		"/c/above/f":             file(1, 1),
		"/c/slash":               file(6, 1),
		"/c/whole/..":            directory(1), // of where it led, not of where it stands
		"/c/whole/../b/f":        file(6, 1),
		"/c/above/../f":          file(1, 1),
	} {
		tells(t, tr, stat(p), want)
	}
	for p, long := range map[string]int{"/c/whole": 4, "/c/part": 6, "/c/part/beside": 1, "/c/here/root": 1, "/c/whole/../../c/none": 7, "/c/through/": 7} {
		tells(t, tr, lstat(p), linkOf(long, 1))
	}
	tells(t, tr, lstat("/c/whole/."), linkOf(4, 1)) // . is no part
	tells(t, tr, lstat("/c/whole/.."), directory(1))
	tells(t, tr, lstat("/c/whole/f"), file(6, 1))
	fails(t, tr, stat("/c/none"), api.ErrNone)
	fails(t, tr, stat("/c/none/.."), api.ErrNone)
	fails(t, tr, stat("/c/file"), api.ErrNotDir)
	fails(t, tr, stat("/c/through/x"), api.ErrNotDir)
	fails(t, tr, lstat("/c/through/x"), api.ErrNotDir)
}

// P14.1: a link goes from where it stands on the way, be it by one of its names or by another.
func TestLinkOfTwoNames(t *testing.T) {
	tr := tree.New()
	goes(t, tr, mkdir("/a"), mkdir("/b"), symlink("f", "/a/l"), link("/a/l", "/b/m"))
	makes(t, tr, "/a/f", "1")
	makes(t, tr, "/b/f", "22")
	tells(t, tr, stat("/a/l"), file(1, 1))
	tells(t, tr, stat("/b/m"), file(2, 1))
	tells(t, tr, lstat("/b/m"), linkOf(1, 2))
	goes(t, tr, rename("/b", "/a/b"))
	tells(t, tr, stat("/a/b/m"), file(2, 1))
}

// P14.1: eight links are followed on the way; the ninth one is ErrLoop.
func TestHops(t *testing.T) {
	tr := tree.New()
	makes(t, tr, "/0", "123")
	goes(t, tr, mkdir("/d"), symlink(".", "/d/.self"), symlink("d", "/e"))
	// Each leads to the one ahead of it: 1 to 0, 2 to 1, and so on.
	for _, pair := range []string{"10", "21", "32", "43", "54", "65", "76", "87", "98"} {
		goes(t, tr, symlink(pair[1:], "/"+pair[:1]))
	}
	for _, p := range []string{"/1", "/7", "/8"} {
		tells(t, tr, stat(p), file(3, 1))
	}
	fails(t, tr, stat("/9"), api.ErrLoop)
	fails(t, tr, readdir("/9"), api.ErrLoop)
	fails(t, tr, open("/9", 0), api.ErrLoop)
	fails(t, tr, open("/9", api.FCreate), api.ErrLoop)
	fails(t, tr, stat("/9/.."), api.ErrLoop)
	// Itself it is not followed, nor asked of.
	tells(t, tr, lstat("/9"), linkOf(1, 1))
	tells(t, tr, readlink("/9"), data("8"))

	// All links on the way are counted together.
	self := "/.self"
	tells(t, tr, stat("/d"+strings.Repeat(self, 8)), directory(1))
	fails(t, tr, stat("/d"+strings.Repeat(self, 9)), api.ErrLoop)
	tells(t, tr, lstat("/d"+strings.Repeat(self, 9)), linkOf(1, 1))
	fails(t, tr, lstat("/d"+strings.Repeat(self, 10)), api.ErrLoop)
	tells(t, tr, stat("/e"+strings.Repeat(self, 7)), directory(1))
	fails(t, tr, stat("/e"+strings.Repeat(self, 8)), api.ErrLoop)
	fails(t, tr, stat("/d"+strings.Repeat(self, 9)+"/x"), api.ErrLoop)
	fails(t, tr, stat("/d"+strings.Repeat(self, 8)+"/x"), api.ErrNone)

	// A place is found behind eight, and its last name is no link on the way.
	goes(t, tr, mkdir("/d"+strings.Repeat(self, 8)+"/x"))
	fails(t, tr, mkdir("/d"+strings.Repeat(self, 9)+"/y"), api.ErrLoop)
	tells(t, tr, stat("/d/x"), directory(0))
}

// P14.1: links that lead to themselves are ErrLoop.
func TestRings(t *testing.T) {
	tr := tree.New()
	goes(t, tr, symlink("a", "/a"), symlink("/c", "/b"), symlink("b", "/c"), symlink("d/x", "/d"), symlink("/e/..", "/e"))
	for _, p := range []string{"/a", "/a/x", "/a/..", "/b", "/c", "/c/b", "/d", "/d/x", "/e", "/e/a"} {
		fails(t, tr, stat(p), api.ErrLoop)
		fails(t, tr, open(p, api.FWrite), api.ErrLoop)
		if n := tr.Number(p + "/z"); n != 0 {
			t.Errorf("Number(%q): %d", p, n)
		}
	}
	for _, p := range []string{"/a/x", "/b/x", "/e/x"} {
		for _, o := range []api.Op{mkdir(p), rmdir(p), unlink(p), open(p, api.FCreate), symlink("x", p), rename(p, "/x"), rename("/a", p), link("/a", p), lstat(p), readlink(p)} {
			fails(t, tr, o, api.ErrLoop)
		}
	}
	goes(t, tr, unlink("/a"), unlink("/b"))
	lists(t, tr, "/", "/c", "/d", "/e")
}

// places are operations of which each finds the place p, and tells ahead of all else what is wrong with it.
func places(p string) []api.Op {
	return []api.Op{open(p, api.FCreate), open(p, api.FCreate|api.FExcl|api.FWrite), mkdir(p), rmdir(p), unlink(p), link("/f", p), symlink("f", p), rename(p, "/new"), rename("/f", p)}
}

// P14.1: a place is one for a name: the root is none, and .. is none.
func TestNoPlace(t *testing.T) {
	tr := tree.New()
	goes(t, tr, mkdir("/a"))
	makes(t, tr, "/f", "")
	makes(t, tr, "/new", "")
	for _, p := range []string{"/", "//", "/.", "/..", "/a/..", "/a/../.", "/a/.././/", "/x/..", "/f/.."} {
		for _, o := range places(p) {
			fails(t, tr, o, api.ErrArg)
		}
	}
	for _, o := range places("/x/y") {
		fails(t, tr, o, api.ErrNone)
	}
	for _, o := range places("/f/y") {
		fails(t, tr, o, api.ErrNotDir)
	}
	for _, o := range places("/f/y/z") {
		fails(t, tr, o, api.ErrNotDir)
	}
}

// P14.1: links ahead of a place's name are followed, the name itself is not.
func TestPlaceThroughLinks(t *testing.T) {
	tr := tree.New()
	goes(t, tr, mkdir("/a"), symlink("a", "/l"), symlink("l", "/m"), symlink("none", "/n"), symlink("f", "/o"))
	makes(t, tr, "/f", "1")
	goes(t, tr, mkdir("/m/b"), mkdir("/m/b/../c"))
	tells(t, tr, readdir("/a"), names("b", "c"))
	fails(t, tr, mkdir("/m"), api.ErrExist)
	fails(t, tr, mkdir("/n"), api.ErrExist)
	fails(t, tr, rmdir("/m"), api.ErrNotDir)
	fails(t, tr, mkdir("/n/x"), api.ErrNone)
	fails(t, tr, mkdir("/o/x"), api.ErrNotDir)
	goes(t, tr, unlink("/m"), unlink("/o"))
	lists(t, tr, "/", "/a", "/a/b", "/a/c", "/f", "/l", "/n")
}

// P14.1: ErrLong of a place whose path, without links and .., has more than MaxPath bytes.
func TestLongPlaces(t *testing.T) {
	tr := tree.New()
	name := long('a', 24)
	goes(t, tr, mkdir("/"+name))
	for k := 2; k <= 7; k++ {
		goes(t, tr, mkdir(strings.Repeat("/"+name, k)))
	}
	top := strings.Repeat("/"+name, 7) // 175 bytes
	// 200 bytes are well.
	makes(t, tr, "/f", "")
	goes(t, tr, mkdir(top+"/"+long('b', 24)), symlink(strings.Repeat("/"+name, 3), "/three"), symlink("three"+strings.Repeat("/"+name, 3), "/six"), symlink("six/"+name, "/seven"))
	fails(t, tr, mkdir(top+"/"+long('b', 24)), api.ErrExist)
	tells(t, tr, stat("/seven/"+long('b', 24)), directory(0))
	// 202 bytes, though the path that tells of it has few.
	p := "/seven/" + long('b', 24) + "/c"
	for _, o := range places(p) {
		fails(t, tr, o, api.ErrLong)
	}
	// Such a path is found, but nothing is there.
	fails(t, tr, stat(p), api.ErrNone)
	// 200 and 201 bytes by way of two parts.
	goes(t, tr, mkdir("/seven/"+long('d', 12)))
	d := "/seven/" + long('d', 12) + "/"
	goes(t, tr, mkdir(d+long('e', 11)))
	for _, o := range places(d + long('e', 12)) {
		fails(t, tr, o, api.ErrLong)
	}
	// .. parts are not counted: here is room.
	goes(t, tr, mkdir(d+"../../"+long('e', 24)))
	tells(t, tr, stat("/six/"+long('e', 24)), directory(0))
	// Nor is it the path that was handed in: this one has 200 bytes.
	short := "/" + strings.Repeat("/", 197) + "/g"
	goes(t, tr, mkdir(short), rmdir("/g"))
	fails(t, tr, mkdir("/"+short), api.ErrLong)
}

// P14.1: ErrLong of a place whose path has more than MaxParts parts.
func TestDeepPlaces(t *testing.T) {
	tr := tree.New()
	for _, p := range deep("a", 20) {
		goes(t, tr, mkdir(p))
	}
	makes(t, tr, "/f", "")
	goes(t, tr, symlink("a/a/a/a/a/a/a/a/a/a", "/ten"), symlink("/ten/a/a/a/a/a/a/a/a/a", "/nineteen"), symlink("nineteen/a", "/twenty"))
	tells(t, tr, stat("/twenty"), directory(0))
	goes(t, tr, mkdir("/nineteen/b"))
	makes(t, tr, "/nineteen/f", "1")
	for _, p := range []string{"/twenty/b", "/nineteen/a/b", "/nineteen/b/b", "/twenty/../b/c", "/ten/a/a/a/a/a/a/a/a/a/a/b"} {
		for _, o := range places(p) {
			fails(t, tr, o, api.ErrLong)
		}
		fails(t, tr, stat(p), api.ErrNone)
	}
	// Within 20 parts again.
	goes(t, tr, mkdir("/twenty/../c"), mkdir("/twenty/../../c"), rmdir("/twenty/../b"))
	tells(t, tr, readdir("/nineteen"), names("a", "c", "f"))
}
