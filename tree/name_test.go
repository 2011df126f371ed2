package tree_test

import (
	"strings"
	"testing"

	"purlin/api"
	"purlin/tree"
)

// P14.1: Mkdir makes an empty directory at a place at which nothing stands.
func TestMkdir(t *testing.T) {
	tr := tree.New()
	goes(t, tr, mkdir("/a"))
	// The chapter's example.
	tells(t, tr, stat("/a"), api.Answer{Kind: api.KindDir, N: 0, Links: 1})
	goes(t, tr, mkdir("/a/b/"), mkdir("/a/../c"), mkdir("//a/./b//d"))
	makes(t, tr, "/f", "")
	goes(t, tr, symlink("none", "/l"))
	lists(t, tr, "/", "/a", "/a/b", "/a/b/d", "/c", "/f", "/l")
	for _, p := range []string{"/a", "/a/b", "/f", "/l", "/a/../a", "/a/b/d/."} {
		fails(t, tr, mkdir(p), api.ErrExist)
	}
	fails(t, tr, mkdir("/x/y"), api.ErrNone)
	fails(t, tr, mkdir("/f/y"), api.ErrNotDir)
}

// P14.1: Rmdir takes an empty directory away.
func TestRmdir(t *testing.T) {
	tr := tree.New()
	goes(t, tr, mkdir("/a"), mkdir("/a/b"), mkdir("/c"), symlink("c", "/l"))
	makes(t, tr, "/c/f", "")
	fails(t, tr, rmdir("/x"), api.ErrNone)
	fails(t, tr, rmdir("/a/x"), api.ErrNone)
	fails(t, tr, rmdir("/c/f"), api.ErrNotDir)
	fails(t, tr, rmdir("/l"), api.ErrNotDir)
	fails(t, tr, rmdir("/a"), api.ErrNotEmpty)
	fails(t, tr, rmdir("/l/../a"), api.ErrNotEmpty)
	fails(t, tr, rmdir("/c"), api.ErrNotEmpty)
	fails(t, tr, rmdir("/"), api.ErrArg)
	goes(t, tr, rmdir("/a/b"), rmdir("/a"))
	fails(t, tr, rmdir("/a"), api.ErrNone)
	goes(t, tr, unlink("/c/f"), rmdir("/c"))
	lists(t, tr, "/", "/l")
	needs(t, tr, 2, 2)
}

// P14.1: Unlink takes one name of what is no directory away.
func TestUnlink(t *testing.T) {
	tr := tree.New()
	goes(t, tr, mkdir("/d"), symlink("f", "/l"), symlink("d", "/m"))
	makes(t, tr, "/f", "123")
	goes(t, tr, link("/f", "/d/g"))
	fails(t, tr, unlink("/x"), api.ErrNone)
	fails(t, tr, unlink("/d/x"), api.ErrNone)
	fails(t, tr, unlink("/d"), api.ErrIsDir)
	fails(t, tr, unlink("/m/./../d"), api.ErrIsDir)
	fails(t, tr, unlink("/f/x"), api.ErrNotDir)
	fails(t, tr, unlink("/"), api.ErrArg)
	// A link itself is gone, not what it leads to.
	goes(t, tr, unlink("/l"), unlink("/m"))
	lists(t, tr, "/", "/d", "/d/g", "/f")
	goes(t, tr, unlink("/f"))
	tells(t, tr, stat("/d/g"), file(3, 1))
	fails(t, tr, unlink("/f"), api.ErrNone)
	needs(t, tr, 3, 3)
	goes(t, tr, unlink("/d/g"))
	needs(t, tr, 2, 2)
}

// P14.1: Link lets what is no directory have one more name: it is one node, by each of them.
func TestLink(t *testing.T) {
	tr := tree.New()
	goes(t, tr, mkdir("/d"), symlink("f", "/l"), symlink("d", "/m"), symlink("none", "/n"))
	makes(t, tr, "/f", "123")
	goes(t, tr, link("/f", "/g"), link("/g", "/m/h"))
	for _, p := range []string{"/f", "/g", "/d/h", "/l"} {
		tells(t, tr, stat(p), file(3, 3))
	}
	fd := opened(t, tr, "/g", api.FWrite)
	tells(t, tr, write(fd, "AB"), number(2))
	holds(t, tr, "/d/h", "AB3")
	needs(t, tr, 2+1+1+1+1+1, 6)
	// A link itself, also one that leads nowhere, or to a directory.
	goes(t, tr, link("/l", "/d/f"), link("/n", "/o"), link("/m", "/p"))
	tells(t, tr, lstat("/d/f"), linkOf(1, 2))
	tells(t, tr, lstat("/l"), linkOf(1, 2))
	tells(t, tr, readlink("/o"), data("none"))
	tells(t, tr, readdir("/p"), names("f", "h"))
	goes(t, tr, unlink("/l"))
	tells(t, tr, lstat("/d/f"), linkOf(1, 1))
	fails(t, tr, stat("/d/f"), api.ErrLoop)

	fails(t, tr, link("/d", "/x"), api.ErrPerm)
	fails(t, tr, link("/", "/x"), api.ErrPerm)
	fails(t, tr, link("/m/..", "/x"), api.ErrPerm)
	fails(t, tr, link("/x", "/y"), api.ErrNone)
	fails(t, tr, link("/f/x", "/y"), api.ErrNotDir)
	for _, p := range []string{"/d", "/f", "/g", "/m", "/n", "/d/f"} {
		fails(t, tr, link("/f", p), api.ErrExist)
	}
	// Path is asked ahead of To, and of the place ahead of what stands there.
	fails(t, tr, link("/d", "/f"), api.ErrPerm)
	fails(t, tr, link("/d", "x"), api.ErrPerm)
	fails(t, tr, link("/x", "x"), api.ErrNone)
	fails(t, tr, link("x", "/"+long('y', 25)), api.ErrArg)
	fails(t, tr, link("/f", "/"), api.ErrArg)
	fails(t, tr, link("/f", "/x/y"), api.ErrNone)
	fails(t, tr, link("/f", "/f/y"), api.ErrNotDir)
}

// P14.1: Symlink makes a link that tells Path, whatever that leads to; Readlink tells it again.
func TestSymlink(t *testing.T) {
	tr := tree.New()
	goes(t, tr, mkdir("/d"))
	makes(t, tr, "/f", "")
	for k, target := range []string{"x", "/", ".", "..", "//", "a//b/./..", "/none/at/all", strings.Repeat("x", 24), strings.Repeat("/.", 50), strings.Repeat("a/", 20), "a b\n\xff", "/f/"} {
		to := "/d/" + string(rune('a'+k))
		goes(t, tr, symlink(target, to))
		tells(t, tr, readlink(to), data(target))
		tells(t, tr, lstat(to), linkOf(len(target), 1))
	}
	for target, code := range map[string]api.Errno{
		"": api.ErrArg, "a\x00": api.ErrArg, "\x00": api.ErrArg,
		strings.Repeat("/", 101): api.ErrLong, strings.Repeat("x", 25): api.ErrLong, "a/" + strings.Repeat("x", 25): api.ErrLong, strings.Repeat("a/", 21): api.ErrLong,
	} {
		// Ahead of what is wrong with the place.
		for _, to := range []string{"/x", "/d", "x", "", "/", "/x/y", "/f/y", "/" + long('y', 25)} {
			fails(t, tr, symlink(target, to), code)
		}
	}
	for to, code := range map[string]api.Errno{"/d": api.ErrExist, "/f": api.ErrExist, "/d/a": api.ErrExist, "/": api.ErrArg, "/d/..": api.ErrArg, "": api.ErrArg, "/x/y": api.ErrNone, "/f/y": api.ErrNotDir} {
		fails(t, tr, symlink("f", to), code)
	}
	if n := tr.Number("/d/c"); n != 6 {
		t.Errorf("Number: %d", n)
	}
}

// P14.1: Readlink tells the target of a link itself; ErrArg of all else.
func TestReadlink(t *testing.T) {
	tr := tree.New()
	goes(t, tr, mkdir("/d"), symlink("m", "/l"), symlink("d", "/m"), symlink("../f", "/d/n"))
	makes(t, tr, "/f", "123")
	tells(t, tr, readlink("/l"), data("m"))
	tells(t, tr, readlink("/l/n"), data("../f"))
	tells(t, tr, readlink("/m/../m"), data("d"))
	tells(t, tr, readlink("/l/."), data("m")) // . is no part: that is the link
	for _, p := range []string{"/d", "/", "/f", "/l/..", "/l/../d", "/l/../f"} {
		fails(t, tr, readlink(p), api.ErrArg)
	}
	fails(t, tr, readlink("/x"), api.ErrNone)
	fails(t, tr, readlink("/l/n/x"), api.ErrNotDir)
}

// P14.1: Rename over nothing: all that lies within it moves with it.
func TestRename(t *testing.T) {
	tr := tree.New()
	goes(t, tr, mkdir("/a"), mkdir("/a/b"), mkdir("/c"), symlink("c", "/l"))
	makes(t, tr, "/a/b/f", "123")
	goes(t, tr, rename("/a/b/f", "/a/g"))
	lists(t, tr, "/", "/a", "/a/b", "/a/g", "/c", "/l")
	holds(t, tr, "/a/g", "123")
	goes(t, tr, rename("/a/g", "/l/h"), rename("/l", "/m"), rename("/a", "/m/a"))
	lists(t, tr, "/", "/c", "/c/a", "/c/a/b", "/c/h", "/m")
	tells(t, tr, readlink("/m"), data("c"))
	goes(t, tr, rename("/c", "/z"), rename("/z/a/b", "/z/a/bb"))
	lists(t, tr, "/", "/m", "/z", "/z/a", "/z/a/bb", "/z/h")
	fails(t, tr, rename("/c", "/y"), api.ErrNone)
	fails(t, tr, rename("/z/x", "/y"), api.ErrNone)
	if n := tr.Number("/z/a/bb"); n != 3 {
		t.Errorf("Number: %d", n)
	}
}

// P14.1: Rename over a file or a link: that one's name is gone.
func TestRenameOver(t *testing.T) {
	tr := tree.New()
	makes(t, tr, "/a", "1")
	makes(t, tr, "/b", "22")
	goes(t, tr, link("/b", "/c"), symlink("a", "/l"), mkdir("/d"))
	goes(t, tr, rename("/a", "/b"))
	tells(t, tr, stat("/b"), file(1, 1))
	tells(t, tr, stat("/c"), file(2, 1))
	fails(t, tr, stat("/a"), api.ErrNone)
	goes(t, tr, rename("/b", "/c"))
	tells(t, tr, stat("/c"), file(1, 1))
	needs(t, tr, 2+1+1, 4) // the root had five names
	goes(t, tr, rename("/l", "/c"))
	tells(t, tr, readlink("/c"), data("a"))
	makes(t, tr, "/f", "333")
	goes(t, tr, rename("/f", "/c"))
	lists(t, tr, "/", "/c", "/d")
	holds(t, tr, "/c", "333")

	// No file, no link over a directory, be it empty or not.
	goes(t, tr, symlink("d", "/l"))
	fails(t, tr, rename("/c", "/d"), api.ErrIsDir)
	fails(t, tr, rename("/l", "/d"), api.ErrIsDir)
	makes(t, tr, "/d/x", "")
	fails(t, tr, rename("/c", "/d"), api.ErrIsDir)
	fails(t, tr, rename("/d/x", "/d"), api.ErrIsDir)
	// Over a link that leads to one, but not it itself.
	goes(t, tr, rename("/c", "/l"))
	lists(t, tr, "/", "/d", "/d/x", "/l")
}

// P14.1: a directory takes the place of an empty one alone.
func TestRenameDirectory(t *testing.T) {
	tr := tree.New()
	goes(t, tr, mkdir("/a"), mkdir("/a/b"), mkdir("/e"), mkdir("/n"), mkdir("/n/x"), symlink("e", "/l"))
	makes(t, tr, "/f", "")
	fails(t, tr, rename("/a", "/f"), api.ErrNotDir)
	fails(t, tr, rename("/a", "/l"), api.ErrNotDir)
	fails(t, tr, rename("/a", "/n"), api.ErrNotEmpty)
	// The one above it is not empty.
	fails(t, tr, rename("/a/b", "/a"), api.ErrNotEmpty)
	goes(t, tr, rename("/a", "/e"))
	lists(t, tr, "/", "/e", "/e/b", "/f", "/l", "/n", "/n/x")
	tells(t, tr, readdir("/l"), names("b"))
	goes(t, tr, rename("/n/x", "/e/b"), rename("/e/b", "/n/../n/x"), rename("/e", "/n/x"))
	lists(t, tr, "/", "/f", "/l", "/n", "/n/x")
	needs(t, tr, 2+1+0+1+1, 5) // what was below is e, with b, which had names once; the root had six
}

// P14.1: nothing happens, if both are the same node, and both names stay.
func TestRenameSame(t *testing.T) {
	tr := tree.New()
	goes(t, tr, mkdir("/d"), mkdir("/d/e"), symlink("d", "/l"), symlink("f", "/m"))
	makes(t, tr, "/f", "123")
	goes(t, tr, link("/f", "/d/g"), link("/m", "/n"))
	before := seen(tr)
	for _, o := range []api.Op{rename("/f", "/f"), rename("/f", "/d/g"), rename("/d/g", "/f"), rename("/d", "/d"), rename("/d/e", "/l/e"), rename("/d", "/d/../d"), rename("/m", "/n"), rename("/m", "/m"), rename("/l", "/l")} {
		goes(t, tr, o)
		before.still(t, tr, o)
	}
	// What m leads to is another one.
	goes(t, tr, rename("/m", "/f"))
	tells(t, tr, lstat("/f"), linkOf(1, 2))
	tells(t, tr, stat("/d/g"), file(3, 1))
}

// P14.1: ErrArg, if a directory would lie within itself.
func TestRenameWithin(t *testing.T) {
	tr := tree.New()
	goes(t, tr, mkdir("/a"), mkdir("/a/b"), mkdir("/a/b/c"), mkdir("/ab"), symlink("a/b", "/l"))
	makes(t, tr, "/f", "")
	makes(t, tr, "/a/b/c/f", "")
	for _, to := range []string{"/a/x", "/a/b", "/a/b/x", "/a/b/c", "/a/b/c/x", "/a/b/c/f", "/l/x", "/l/c", "/ab/../a/x", "/a/b/c/../../x"} {
		fails(t, tr, rename("/a", to), api.ErrArg)
		fails(t, tr, rename("/ab/../a", to), api.ErrArg)
	}
	fails(t, tr, rename("/a/b", "/l/x"), api.ErrArg)
	// To's place ahead of that.
	fails(t, tr, rename("/a", "/a/x/y"), api.ErrNone)
	fails(t, tr, rename("/a", "/a/b/c/f/x"), api.ErrNotDir)
	// Beside it, and above it, there is room; and what is no directory may go anywhere.
	goes(t, tr, rename("/a/b/c", "/a/x"), rename("/a/x", "/a/b/c"), rename("/a/b", "/ab/b"), rename("/ab/b", "/a/b"), rename("/l", "/a/b/c/l"), rename("/a", "/ab/a"))
	lists(t, tr, "/", "/ab", "/ab/a", "/ab/a/b", "/ab/a/b/c", "/ab/a/b/c/f", "/ab/a/b/c/l", "/f")
}

// P14.1: ErrLong, if what lies within a directory would have a path of more than MaxParts parts.
func TestRenameTooDeep(t *testing.T) {
	tr := tree.New()
	for _, p := range deep("a", 10) {
		goes(t, tr, mkdir(p))
	}
	goes(t, tr, mkdir("/m"))
	for _, p := range deep("b", 9) {
		goes(t, tr, mkdir("/m"+p))
	}
	makes(t, tr, "/m/b/f", "")
	goes(t, tr, mkdir("/m/e"), symlink("a/a/a/a/a/a/a/a/a/a", "/ten"))
	// What is deepest has ten parts, m among them: 20 are well, 21 are not.
	goes(t, tr, rename("/m", "/ten/m"), rename("/ten/m", "/m"), mkdir("/ten/x"), mkdir("/m"+strings.Repeat("/b", 9)+"/c"))
	for _, to := range []string{"/ten/m", "/ten/n", "/ten/x"} {
		fails(t, tr, rename("/m", to), api.ErrLong)
	}
	// A file that is too deep is one too; a shorter branch may go.
	goes(t, tr, rmdir("/m"+strings.Repeat("/b", 9)+"/c"))
	makes(t, tr, "/m"+strings.Repeat("/b", 9)+"/f", "")
	fails(t, tr, rename("/m", "/ten/x"), api.ErrLong)
	goes(t, tr, rename("/m/b", "/ten/x"), rename("/m/e", "/ten/x/e"))
	// ErrArg ahead of it, and it ahead of what stands there.
	fails(t, tr, rename("/a", "/ten/x/y"), api.ErrArg)
	makes(t, tr, "/ten/f", "")
	makes(t, tr, "/ten/x/b/f2", "")
	bottom := "/m" + strings.Repeat("/b", 8)
	goes(t, tr, rename("/ten/x/b", "/m/b"), mkdir(bottom+"/c"), mkdir(bottom+"/c/d"))
	fails(t, tr, rename("/m", "/ten/f"), api.ErrLong)
	fails(t, tr, rename("/m", "/ten/x"), api.ErrLong)
}

// P14.1: ErrLong, if what lies within a directory would have a path of more than MaxPath bytes.
func TestRenameTooLong(t *testing.T) {
	tr := tree.New()
	goes(t, tr, mkdir("/m"), mkdir("/m/"+long('m', 24)), mkdir("/m/"+long('m', 24)+"/"+long('n', 23)))
	makes(t, tr, "/m/"+long('m', 24)+"/"+long('n', 23)+"/f", "") // 53 bytes, 51 of them behind m
	for _, p := range deep(long('a', 23), 5) {
		goes(t, tr, mkdir(p)) // 120 bytes
	}
	goes(t, tr, symlink(strings.Repeat("/"+long('a', 23), 4), "/four"), symlink("four/"+long('a', 23), "/five"))
	goes(t, tr, mkdir("/five/"+long('x', 24)))
	// 120 + 1 + 28 + 51 bytes are 200.
	goes(t, tr, rename("/m", "/five/m"), rename("/five/m", "/m"))
	goes(t, tr, mkdir("/five/"+long('b', 3)))
	goes(t, tr, rename("/m", "/five/"+long('b', 3)+"/"+long('m', 24)), rename("/five/"+long('b', 3)+"/"+long('m', 24), "/m"))
	goes(t, tr, rename("/five/"+long('b', 3), "/five/"+long('b', 4)))
	fails(t, tr, rename("/m", "/five/"+long('b', 4)+"/"+long('m', 24)), api.ErrLong)
	goes(t, tr, rename("/m", "/five/"+long('b', 4)+"/"+long('m', 23)))
	// What holds it may not grow either.
	fails(t, tr, rename("/five/"+long('b', 4), "/five/"+long('b', 5)), api.ErrLong)
	fails(t, tr, rename("/"+long('a', 23), "/"+long('a', 24)), api.ErrLong)
	goes(t, tr, rename("/"+long('a', 23), "/"+long('a', 22)))
}

// P14.1: of Rename each code is told ahead of those that the chapter names behind it.
func TestRenameOrder(t *testing.T) {
	tr := tree.New()
	goes(t, tr, mkdir("/d"), mkdir("/d/e"), mkdir("/n"), mkdir("/n/x"))
	makes(t, tr, "/f", "")
	tooLong := "/" + long('y', 25)
	for _, c := range []struct {
		from, to string
		code     api.Errno
	}{
		{"", tooLong, api.ErrArg},
		{"/", tooLong, api.ErrArg},
		{tooLong, "", api.ErrLong},
		// To's path ahead of Path's place.
		{"/x/y", "", api.ErrArg},
		{"/x", "/d/..", api.ErrArg},
		{"/f/y", tooLong, api.ErrLong},
		{"/x", "/", api.ErrArg},
		// Path's place ahead of what stands there, that ahead of To's place.
		{"/f/y", "/x/y", api.ErrNotDir},
		{"/x/y", "/f/y", api.ErrNone},
		{"/x", "/f/y", api.ErrNone},
		{"/d", "/f/y", api.ErrNotDir},
		{"/d", "/d/x/y", api.ErrNone},
		// Within itself, and something stands there.
		{"/d", "/d/e", api.ErrArg},
		{"/f", "/d", api.ErrIsDir},
		{"/d", "/f", api.ErrNotDir},
		{"/d", "/n", api.ErrNotEmpty},
	} {
		fails(t, tr, rename(c.from, c.to), c.code)
	}
}
