package tree_test

import (
	"math"
	"strings"
	"testing"

	"purlin/api"
	"purlin/tree"
)

// zeros are so many zero bytes.
func zeros(many int) string { return strings.Repeat("\x00", many) }

// P14.1: Open tells the least descriptor that is not open, of a file that is there or that it makes.
func TestOpen(t *testing.T) {
	tr := tree.New()
	goes(t, tr, mkdir("/d"), symlink("d/f", "/l"), symlink("d", "/m"), symlink("d/g", "/n"))
	tells(t, tr, open("/d/f", api.FCreate|api.FWrite), number(0))
	tells(t, tr, open("/d/f", api.FCreate), number(1))
	tells(t, tr, open("/l", 0), number(2))
	tells(t, tr, open("/d", 0), number(3))
	tells(t, tr, open("/", 0), number(4))
	tells(t, tr, open("/m", api.FCreate|api.FSync), number(5))
	goes(t, tr, shut(1), shut(3))
	tells(t, tr, open("/l", api.FWrite|api.FCreate), number(1))
	tells(t, tr, open("/d/../d/.", api.FExcl), number(3))
	// Without FWrite a file may be made too.
	tells(t, tr, open("/d/h", api.FCreate|api.FExcl), number(6))
	tells(t, tr, stat("/d/h"), file(0, 1))
	lists(t, tr, "/", "/d", "/d/f", "/d/h", "/l", "/m", "/n")

	fails(t, tr, open("/d/g", 0), api.ErrNone)
	fails(t, tr, open("/d/g", api.FWrite|api.FTrunc|api.FExcl), api.ErrNone)
	// The name is there, but what it leads to is not: no file is made behind a link.
	fails(t, tr, open("/n", api.FCreate|api.FWrite), api.ErrNone)
	for _, p := range []string{"/d/f", "/d", "/l", "/m", "/n"} {
		fails(t, tr, open(p, api.FCreate|api.FExcl), api.ErrExist)
		// ErrExist ahead of ErrIsDir.
		fails(t, tr, open(p, api.FCreate|api.FExcl|api.FWrite), api.ErrExist)
	}
	for _, p := range []string{"/d", "/m", "/d/.", "/l/.."} {
		for _, flags := range []int{api.FWrite, api.FWrite | api.FTrunc, api.FWrite | api.FAppend} {
			code := api.ErrIsDir
			if p == "/l/.." {
				code = api.ErrNotDir
			}
			fails(t, tr, open(p, flags), code)
		}
	}
	fails(t, tr, open("/", api.FWrite), api.ErrIsDir)
	fails(t, tr, open("/d", api.FWrite|api.FCreate), api.ErrIsDir)
}

// P14.1: Flags from 0 to 63, but FTrunc, FAppend not without FWrite; all else is ErrArg, ahead of what is wrong with the path.
func TestOpenFlags(t *testing.T) {
	for flags := -70; flags < 140; flags++ {
		tr := tree.New()
		makes(t, tr, "/f", "123")
		wrong := flags < 0 || flags > 63 || flags&32 == 0 && flags&12 != 0
		if wrong {
			for _, p := range []string{"/f", "", "/x", "/", "x", "/f/x", strings.Repeat("/a", 21)} {
				fails(t, tr, open(p, flags), api.ErrArg)
			}
			continue
		}
		if flags&3 == 3 {
			fails(t, tr, open("/f", flags), api.ErrExist)
			continue
		}
		tells(t, tr, open("/f", flags), number(0))
		want := file(3, 1)
		if flags&4 != 0 {
			want = file(0, 1)
		}
		tells(t, tr, stat("/f"), want)
	}
	tr := tree.New()
	for _, flags := range []int{math.MinInt, math.MaxInt, 1 << 32, 1<<32 | 33, -1 << 40, 64 | 33} {
		fails(t, tr, open("/f", flags), api.ErrArg)
	}
}

// P14.1: with FTrunc the size is 0, at once, and for all that have the file.
func TestOpenTrunc(t *testing.T) {
	tr := tree.New()
	fd := opens(t, tr, "/f", strings.Repeat("x", 300))
	tells(t, tr, seek(fd, 200, 0), number(200))
	tells(t, tr, open("/f", api.FTrunc|api.FWrite), number(1))
	tells(t, tr, stat("/f"), file(0, 1))
	tells(t, tr, seek(fd, 0, 1), number(200))
	tells(t, tr, read(fd, 10), data(""))
	tells(t, tr, write(fd, "abc"), number(3))
	holds(t, tr, "/f", zeros(200)+"abc")
	tells(t, tr, open("/g", api.FTrunc|api.FWrite|api.FCreate), number(2))
	tells(t, tr, stat("/g"), file(0, 1))
}

// P14.1: ErrFiles, if MaxOpen are open; nothing is made or cut then. All other codes are told ahead of it.
func TestOpenMany(t *testing.T) {
	tr := tree.New()
	makes(t, tr, "/f", "123")
	goes(t, tr, mkdir("/d"))
	for fd := range 16 {
		tells(t, tr, open("/f", api.FWrite), number(fd))
	}
	for _, o := range []api.Op{open("/f", 0), open("/", 0), open("/g", api.FCreate), open("/g", api.FCreate|api.FExcl|api.FWrite), open("/f", api.FTrunc|api.FWrite), open("/d", 0)} {
		fails(t, tr, o, api.ErrFiles)
	}
	fails(t, tr, open("/d", api.FWrite), api.ErrIsDir)
	fails(t, tr, open("/x", 0), api.ErrNone)
	fails(t, tr, open("/f", api.FCreate|api.FExcl), api.ErrExist)
	fails(t, tr, open("/f", api.FTrunc), api.ErrArg)
	fails(t, tr, open("/f/x", 0), api.ErrNotDir)
	goes(t, tr, shut(9))
	tells(t, tr, open("/g", api.FCreate), number(9))
	fails(t, tr, open("/h", api.FCreate), api.ErrFiles)
	// No number was taken by what was not made.
	if n := tr.Number("/g"); n != 4 {
		t.Errorf("Number: %d", n)
	}
}

// strangers are descriptors that no tree has.
var strangers = []int{-1, -2, -16, math.MinInt, 16, 17, 256, 1 << 32, math.MaxInt}

// byDescriptor are operations of each Kind that takes one, with numbers that may not be too.
func byDescriptor(fd int) []api.Op {
	return []api.Op{shut(fd), read(fd, 1), read(fd, -1), write(fd, "x"), write(fd, strings.Repeat("x", api.MaxFile+1)), pread(fd, 0, 1), pread(fd, -1, -1),
		pwrite(fd, 0, "x"), pwrite(fd, -1, "x"), pwrite(fd, api.MaxFile, "x"), seek(fd, 0, 0), seek(fd, -1, 7), trunc(fd, 0), trunc(fd, -1), trunc(fd, api.MaxFile+1), fsync(fd), fdatasync(fd)}
}

// P14.1: ErrBad of what is not open, ahead of all else.
func TestBad(t *testing.T) {
	tr := tree.New()
	opens(t, tr, "/f", "123")
	opens(t, tr, "/g", "456")
	goes(t, tr, shut(0))
	for _, fd := range append([]int{0, 2, 15}, strangers...) {
		for _, o := range byDescriptor(fd) {
			fails(t, tr, o, api.ErrBad)
		}
	}
	goes(t, tr, shut(1))
	fails(t, tr, shut(1), api.ErrBad)
}

// P14.1: what was not opened to write is not written; what is a directory is not read.
func TestReadOnly(t *testing.T) {
	tr := tree.New()
	makes(t, tr, "/f", "123")
	goes(t, tr, mkdir("/d"))
	for _, flags := range []int{0, api.FCreate, api.FSync, api.FExcl} {
		fd := opened(t, tr, "/f", flags)
		for _, o := range []api.Op{write(fd, "x"), write(fd, ""), write(fd, strings.Repeat("x", api.MaxFile+1)), pwrite(fd, 0, "x"), pwrite(fd, -1, "x"), trunc(fd, 0), trunc(fd, 3), trunc(fd, -1), trunc(fd, api.MaxFile+1)} {
			fails(t, tr, o, api.ErrBad)
		}
		tells(t, tr, read(fd, 10), data("123"))
	}
	fd := opened(t, tr, "/d", 0)
	for _, o := range []api.Op{read(fd, 1), read(fd, 0), read(fd, -1), pread(fd, 0, 1), pread(fd, -1, -1), seek(fd, 0, 0), seek(fd, -1, 9)} {
		fails(t, tr, o, api.ErrIsDir)
	}
	for _, o := range []api.Op{write(fd, "x"), pwrite(fd, 0, "x"), trunc(fd, 0)} {
		fails(t, tr, o, api.ErrBad)
	}
	goes(t, tr, fsync(fd), fdatasync(fd), shut(fd))
}

// P14.1: Read tells up to N bytes from where it stands, and moves behind them; Pread tells them from Off, and moves nothing.
func TestRead(t *testing.T) {
	tr := tree.New()
	makes(t, tr, "/f", "abcdefghij")
	fd := opened(t, tr, "/f", 0)
	other := opened(t, tr, "/f", 0)
	tells(t, tr, read(fd, 3), data("abc"))
	tells(t, tr, read(fd, 0), data(""))
	tells(t, tr, read(fd, 4), data("defg"))
	tells(t, tr, pread(fd, 1, 2), data("bc"))
	tells(t, tr, read(other, 1), data("a"))
	tells(t, tr, read(fd, math.MaxInt), data("hij"))
	tells(t, tr, read(fd, 5), data(""))
	tells(t, tr, seek(fd, 0, 1), number(10))
	tells(t, tr, seek(other, 0, 1), number(1))
	for off := range 12 {
		for n := range 12 {
			tells(t, tr, pread(fd, off, n), data("abcdefghij"[min(off, 10):min(off+n, 10)]))
		}
		tells(t, tr, pread(fd, off, math.MaxInt), data("abcdefghij"[min(off, 10):]))
	}
	for _, off := range []int{10, 11, 1 << 40, 1 << 41, math.MaxInt} {
		for _, n := range []int{0, 1, 10, math.MaxInt} {
			tells(t, tr, pread(fd, off, n), data(""))
		}
	}
	// Behind the end nothing is read, and nothing moves.
	for _, off := range []int{11, 20, 1 << 40} {
		tells(t, tr, seek(fd, off, 0), number(off))
		tells(t, tr, read(fd, 5), data(""))
		tells(t, tr, read(fd, math.MaxInt), data(""))
		tells(t, tr, seek(fd, 0, 1), number(off))
	}
	for _, n := range []int{-1, -2, math.MinInt} {
		fails(t, tr, read(fd, n), api.ErrArg)
		fails(t, tr, pread(fd, 0, n), api.ErrArg)
		fails(t, tr, pread(fd, n, 0), api.ErrArg)
		fails(t, tr, pread(fd, n, n), api.ErrArg)
	}
	// Off is nothing that Read asks of.
	tells(t, tr, seek(fd, 2, 0), number(2))
	tells(t, tr, api.Op{Kind: api.OpRead, FD: fd, N: 2, Off: -7, Flags: -1, Path: "x", Data: []byte("y")}, data("cd"))
}

// P14.1: Write lets the bytes stand from where it stands on, zeros ahead of them, and moves behind them.
func TestWrite(t *testing.T) {
	tr := tree.New()
	fd := opened(t, tr, "/f", api.FCreate|api.FWrite)
	tells(t, tr, write(fd, "abc"), number(3))
	tells(t, tr, write(fd, "de"), number(2))
	holds(t, tr, "/f", "abcde")
	tells(t, tr, seek(fd, 1, 0), number(1))
	tells(t, tr, write(fd, "BC"), number(2))
	tells(t, tr, read(fd, 9), data("de"))
	holds(t, tr, "/f", "aBCde")
	tells(t, tr, seek(fd, 8, 0), number(8))
	tells(t, tr, stat("/f"), file(5, 1))
	tells(t, tr, write(fd, "x"), number(1))
	holds(t, tr, "/f", "aBCde\x00\x00\x00x")
	tells(t, tr, seek(fd, 0, 1), number(9))
	// Over the end.
	tells(t, tr, seek(fd, 7, 0), number(7))
	tells(t, tr, write(fd, "1234"), number(4))
	holds(t, tr, "/f", "aBCde\x00\x001234")
}

// P14.1: Pwrite lets them stand from Off on, and moves nothing.
func TestPwrite(t *testing.T) {
	tr := tree.New()
	fd := opened(t, tr, "/f", api.FCreate|api.FWrite)
	tells(t, tr, pwrite(fd, 3, "abc"), number(3))
	holds(t, tr, "/f", zeros(3)+"abc")
	tells(t, tr, seek(fd, 0, 1), number(0))
	tells(t, tr, pwrite(fd, 0, "xy"), number(2))
	tells(t, tr, pwrite(fd, 5, "zz"), number(2))
	holds(t, tr, "/f", "xy\x00abzz")
	tells(t, tr, pwrite(fd, 300, "end"), number(3))
	holds(t, tr, "/f", "xy\x00abzz"+zeros(293)+"end")
	for _, off := range []int{-1, -2, math.MinInt} {
		fails(t, tr, pwrite(fd, off, "x"), api.ErrArg)
		fails(t, tr, pwrite(fd, off, ""), api.ErrArg)
		// ErrArg ahead of ErrBig.
		fails(t, tr, pwrite(fd, off, strings.Repeat("x", api.MaxFile+2)), api.ErrArg)
	}
}

// P14.1: with FAppend Write begins at the end, wherever it stands; Pwrite at Off.
func TestAppend(t *testing.T) {
	tr := tree.New()
	makes(t, tr, "/f", "abc")
	fd := opened(t, tr, "/f", api.FWrite|api.FAppend)
	tells(t, tr, seek(fd, 0, 1), number(0))
	tells(t, tr, read(fd, 1), data("a"))
	tells(t, tr, write(fd, "de"), number(2))
	tells(t, tr, seek(fd, 0, 1), number(5))
	other := opened(t, tr, "/f", api.FWrite)
	tells(t, tr, pwrite(other, 8, "x"), number(1))
	tells(t, tr, write(fd, "yz"), number(2))
	holds(t, tr, "/f", "abcde\x00\x00\x00xyz")
	tells(t, tr, pwrite(fd, 1, "B"), number(1))
	tells(t, tr, seek(fd, 0, 1), number(11))
	holds(t, tr, "/f", "aBcde\x00\x00\x00xyz")
	// Far behind the end it stands, but not what it writes. No bytes move nothing.
	tells(t, tr, seek(fd, 1<<40, 0), number(1<<40))
	tells(t, tr, write(fd, ""), number(0))
	tells(t, tr, seek(fd, 0, 1), number(1<<40))
	tells(t, tr, write(fd, "!"), number(1))
	tells(t, tr, seek(fd, 0, 1), number(12))
	tells(t, tr, trunc(fd, 2), api.Answer{})
	tells(t, tr, write(fd, "c"), number(1))
	holds(t, tr, "/f", "aBc")
}

// P14.1: a file's end lies at MaxFile at most; beyond it is ErrBig, and nothing is written.
func TestBig(t *testing.T) {
	tr := tree.New()
	fd := opens(t, tr, "/f", "abc")
	tells(t, tr, pwrite(fd, api.MaxFile-1, "x"), number(1))
	tells(t, tr, stat("/f"), file(api.MaxFile, 1))
	tells(t, tr, pread(fd, api.MaxFile-2, 9), data("\x00x"))
	for _, o := range []api.Op{pwrite(fd, api.MaxFile, "y"), pwrite(fd, api.MaxFile-1, "yz"), pwrite(fd, 0, strings.Repeat("y", api.MaxFile+1)),
		pwrite(fd, 1<<40, "y"), pwrite(fd, math.MaxInt, "y"), pwrite(fd, math.MaxInt-1, "yz"), write(fd, strings.Repeat("y", api.MaxFile+1))} {
		fails(t, tr, o, api.ErrBig)
	}
	tells(t, tr, pwrite(fd, 0, strings.Repeat("y", api.MaxFile)), number(api.MaxFile))
	tells(t, tr, write(fd, strings.Repeat("z", api.MaxFile)), number(api.MaxFile))
	tells(t, tr, seek(fd, 0, 1), number(api.MaxFile))
	fails(t, tr, write(fd, "x"), api.ErrBig)
	tells(t, tr, seek(fd, -1, 1), number(api.MaxFile-1))
	fails(t, tr, write(fd, "xy"), api.ErrBig)
	tells(t, tr, write(fd, "x"), number(1))
	tells(t, tr, seek(fd, 1<<40, 0), number(1<<40))
	fails(t, tr, write(fd, "x"), api.ErrBig)
	goes(t, tr, trunc(fd, 0))
	fails(t, tr, write(fd, "x"), api.ErrBig)

	over := opened(t, tr, "/f", api.FWrite|api.FAppend)
	tells(t, tr, write(over, strings.Repeat("a", api.MaxFile-1)), number(api.MaxFile-1))
	fails(t, tr, write(over, "bc"), api.ErrBig)
	tells(t, tr, write(over, "b"), number(1))
	fails(t, tr, write(over, "c"), api.ErrBig)
	tells(t, tr, write(over, ""), number(0))
}

// P14.1: a write of no bytes does nothing, nor do zeros stand then; beyond MaxFile ErrBig is told ahead of that.
func TestWriteNothing(t *testing.T) {
	tr := tree.New()
	fd := opens(t, tr, "/f", "abc")
	for _, off := range []int{0, 2, 3, 4, 1000, api.MaxFile} {
		tells(t, tr, seek(fd, off, 0), number(off))
		tells(t, tr, write(fd, ""), number(0))
		tells(t, tr, pwrite(fd, off, ""), number(0))
		tells(t, tr, api.Op{Kind: api.OpWrite, FD: fd, Data: nil}, number(0))
		tells(t, tr, seek(fd, 0, 1), number(off))
		tells(t, tr, stat("/f"), file(3, 1))
		needs(t, tr, 2, 2)
	}
	for _, off := range []int{api.MaxFile + 1, 1 << 40} {
		tells(t, tr, seek(fd, off, 0), number(off))
		fails(t, tr, write(fd, ""), api.ErrBig)
		fails(t, tr, pwrite(fd, off, ""), api.ErrBig)
	}
	fails(t, tr, pwrite(fd, math.MaxInt, ""), api.ErrBig)
}

// P14.1: Seek from the beginning, from here, from the end, to 0 at least, to 2^40 at most.
func TestSeek(t *testing.T) {
	const far = 1 << 40
	tr := tree.New()
	fd := opens(t, tr, "/f", strings.Repeat("x", 100))
	for _, to := range []int{5, 0, 100, 101, far, far - 1, 0} {
		tells(t, tr, seek(fd, to, 0), number(to))
		tells(t, tr, seek(fd, 0, 1), number(to))
		tells(t, tr, seek(fd, to-100, 2), number(to))
		tells(t, tr, seek(fd, 0, 1), number(to))
		tells(t, tr, seek(fd, -to, 1), number(0))
		tells(t, tr, seek(fd, to, 1), number(to))
		for _, o := range []api.Op{seek(fd, -1, 0), seek(fd, far+1, 0), seek(fd, -to-1, 1), seek(fd, far-to+1, 1), seek(fd, -101, 2), seek(fd, far-99, 2)} {
			fails(t, tr, o, api.ErrArg)
		}
		for whence := range 3 {
			for _, off := range []int{math.MinInt, math.MinInt + 1, math.MaxInt, math.MaxInt - 1, math.MaxInt - 100, far + far, -far - 1} {
				fails(t, tr, seek(fd, off, whence), api.ErrArg)
			}
		}
		for _, whence := range []int{-1, 3, 4, 1 << 32, math.MinInt, math.MaxInt} {
			fails(t, tr, seek(fd, 0, whence), api.ErrArg)
		}
	}
	// Each descriptor stands by itself.
	other := opened(t, tr, "/f", 0)
	tells(t, tr, seek(other, 7, 1), number(7))
	tells(t, tr, seek(fd, 3, 1), number(3))
	tells(t, tr, seek(other, 0, 1), number(7))
	// The end is where it is now.
	goes(t, tr, trunc(fd, 50))
	tells(t, tr, seek(other, -1, 2), number(49))
	tells(t, tr, read(other, 5), data("x"))
}

// P14.1: Trunc makes a file so long: what lies beyond is gone, and zeros stand there, if it becomes longer again.
func TestTrunc(t *testing.T) {
	tr := tree.New()
	fd := opens(t, tr, "/f", strings.Repeat("x", 300))
	tells(t, tr, seek(fd, 250, 0), number(250))
	goes(t, tr, trunc(fd, 200))
	holds(t, tr, "/f", strings.Repeat("x", 200))
	goes(t, tr, trunc(fd, 290))
	holds(t, tr, "/f", strings.Repeat("x", 200)+zeros(90))
	tells(t, tr, seek(fd, 0, 1), number(250))
	goes(t, tr, trunc(fd, 1), trunc(fd, 1), trunc(fd, 4))
	tells(t, tr, pwrite(fd, 6, "y"), number(1))
	holds(t, tr, "/f", "x"+zeros(5)+"y")
	goes(t, tr, trunc(fd, 0))
	holds(t, tr, "/f", "")
	goes(t, tr, trunc(fd, api.MaxFile))
	holds(t, tr, "/f", zeros(api.MaxFile))
	for _, size := range []int{-1, math.MinInt} {
		fails(t, tr, trunc(fd, size), api.ErrArg)
	}
	for _, size := range []int{api.MaxFile + 1, 1 << 40, math.MaxInt} {
		fails(t, tr, trunc(fd, size), api.ErrBig)
	}
	goes(t, tr, trunc(fd, 128))
	tells(t, tr, read(fd, 5), data(""))
}

// P14.1: a file that is taken away while it is open is read and written till it is closed, and gone then.
func TestOpenWithoutName(t *testing.T) {
	tr := tree.New()
	fd := opens(t, tr, "/f", "abc")
	other := opened(t, tr, "/f", 0)
	goes(t, tr, unlink("/f"))
	lists(t, tr, "/")
	fails(t, tr, open("/f", 0), api.ErrNone)
	makes(t, tr, "/f", "another")
	tells(t, tr, write(fd, "ABCD"), number(4))
	tells(t, tr, read(other, 9), data("ABCD"))
	goes(t, tr, trunc(fd, 2), fsync(fd), fdatasync(other))
	tells(t, tr, pread(other, 0, 9), data("AB"))
	holds(t, tr, "/f", "another")
	needs(t, tr, 3, 3)
	goes(t, tr, shut(fd))
	tells(t, tr, pread(other, 0, 9), data("AB"))
	needs(t, tr, 3, 3)
	goes(t, tr, shut(other))
	needs(t, tr, 2, 2)
	fails(t, tr, pread(other, 0, 9), api.ErrBad)
	// Its number is not taken again.
	makes(t, tr, "/g", "")
	if f, g := tr.Number("/f"), tr.Number("/g"); f != 3 || g != 4 {
		t.Errorf("Number: %d, %d", f, g)
	}
}

// P14.1: a descriptor has its file, whatever its names become.
func TestOpenRenamed(t *testing.T) {
	tr := tree.New()
	fd := opens(t, tr, "/f", "abc")
	goes(t, tr, mkdir("/d"), rename("/f", "/d/g"), rename("/d", "/e"))
	makes(t, tr, "/f", "other")
	tells(t, tr, write(fd, "X"), number(1))
	holds(t, tr, "/e/g", "Xbc")
	makes(t, tr, "/h", "new")
	goes(t, tr, rename("/h", "/e/g"))
	tells(t, tr, read(fd, 9), data("bc"))
	holds(t, tr, "/e/g", "new")
	goes(t, tr, shut(fd))
	needs(t, tr, 4, 4)
}

// P14.1: Fsync, Fdatasync of what is open; Sync; they change nothing.
func TestSyncs(t *testing.T) {
	tr := tree.New()
	fd := opens(t, tr, "/f", "abc")
	root := opened(t, tr, "/", 0)
	before := seen(tr)
	for _, o := range []api.Op{fsync(fd), fdatasync(fd), fsync(root), fdatasync(root), {Kind: api.OpSync}, {Kind: api.OpSync, N: -1, FD: -1, Off: -1}} {
		goes(t, tr, o)
		before.still(t, tr, o)
	}
}
