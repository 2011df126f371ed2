package tree_test

import (
	"math"
	"strings"
	"testing"

	"purlin/api"
	"purlin/tree"
)

// takes asks that Need tells so many blocks of files alone, and one of the root.
func takes(t *testing.T, tr *tree.Tree, blocks int) {
	t.Helper()
	needs(t, tr, 1+blocks, 2)
}

// P14.3: a file takes each block in which a byte was written, and the pointer blocks on the way to them.
func TestNeedOfFile(t *testing.T) {
	for _, c := range []struct {
		off, long, blocks int
	}{
		{0, 0, 0}, {0, 1, 1}, {127, 1, 1}, {0, 128, 1}, {128, 1, 1}, {127, 2, 2}, {0, 129, 2}, {300, 1, 1},
		{0, 768, 6}, {767, 1, 1}, // all direct ones
		{768, 1, 2}, {767, 2, 3}, {0, 769, 8}, {2303, 1, 2}, {768, 1536, 13}, {0, 2304, 19}, // Single's
		{2304, 1, 3}, {2303, 2, 5}, {0, 2305, 22}, {3839, 1, 3}, {3839, 2, 5}, {2304, 1536, 14}, {2304, 1537, 16}, // Double's, and the first two behind it
		{20735, 1, 3}, {20480, 256, 4}, {0, 20736, 162 + 1 + 1 + 12}, {768, 19968, 156 + 14},
	} {
		tr := tree.New()
		fd := opened(t, tr, "/f", api.FCreate|api.FWrite)
		tells(t, tr, pwrite(fd, c.off, strings.Repeat("x", c.long)), number(c.long))
		takes(t, tr, c.blocks)
		// Once more the same bytes, or zeros: nothing more.
		tells(t, tr, pwrite(fd, c.off, strings.Repeat("x", c.long)), number(c.long))
		tells(t, tr, pwrite(fd, c.off, zeros(c.long)), number(c.long))
		takes(t, tr, c.blocks)
		goes(t, tr, trunc(fd, 0))
		takes(t, tr, 0)
		tells(t, tr, seek(fd, c.off, 0), number(c.off))
		tells(t, tr, write(fd, zeros(c.long)), number(c.long))
		takes(t, tr, c.blocks)
		goes(t, tr, unlink("/f"))
		takes(t, tr, c.blocks)
		goes(t, tr, shut(fd))
		needs(t, tr, 1, 1)
	}
}

// P14.3: each block of a file alone, with the pointer blocks that it hangs on.
func TestNeedOfEachBlock(t *testing.T) {
	tr := tree.New()
	fd := opened(t, tr, "/f", api.FCreate|api.FWrite)
	for k := range 162 {
		want := 1
		if k >= 6 {
			want = 2
		}
		if k >= 18 {
			want = 3
		}
		for _, off := range []int{128 * k, 128*k + 127} {
			tells(t, tr, pwrite(fd, off, "x"), number(1))
			takes(t, tr, want)
			goes(t, tr, trunc(fd, 128*k))
			takes(t, tr, 0)
		}
	}
	// From the last one to the first, so that holes are filled: each pointer block is counted once.
	all := map[int]int{}
	for k := 161; k >= 0; k-- {
		tells(t, tr, pwrite(fd, 128*k+5, "x"), number(1))
		if k >= 18 {
			all[100], all[(k-18)/12] = 1, 1
		} else if k >= 6 {
			all[101] = 1
		}
		takes(t, tr, 162-k+len(all))
	}
}

// P14.3: zeros that were not written take nothing; what was cut away has to be written again.
func TestNeedOfHoles(t *testing.T) {
	tr := tree.New()
	fd := opened(t, tr, "/f", api.FCreate|api.FWrite)
	goes(t, tr, trunc(fd, api.MaxFile))
	takes(t, tr, 0)
	tells(t, tr, pwrite(fd, 300, "x"), number(1))
	takes(t, tr, 1)
	// Within its block it is cut: the block stays, even without the byte that was written.
	goes(t, tr, trunc(fd, 257))
	takes(t, tr, 1)
	goes(t, tr, trunc(fd, 256))
	takes(t, tr, 0)
	goes(t, tr, trunc(fd, 400))
	takes(t, tr, 0)
	tells(t, tr, pwrite(fd, 1000, "x"), number(1))
	takes(t, tr, 2) // block 7, by way of Single
	goes(t, tr, trunc(fd, 3000))
	takes(t, tr, 2)
	tells(t, tr, pwrite(fd, 2900, "x"), number(1))
	takes(t, tr, 2+3)
	goes(t, tr, trunc(fd, 2817))
	takes(t, tr, 2+3)
	goes(t, tr, trunc(fd, 2816))
	takes(t, tr, 2)
	goes(t, tr, trunc(fd, 897))
	takes(t, tr, 2)
	goes(t, tr, trunc(fd, 896), trunc(fd, api.MaxFile))
	takes(t, tr, 0)
	// By Open too.
	tells(t, tr, pwrite(fd, 0, strings.Repeat("x", 1000)), number(1000))
	takes(t, tr, 9)
	opened(t, tr, "/f", api.FTrunc|api.FWrite)
	takes(t, tr, 0)
	goes(t, tr, trunc(fd, 1000))
	takes(t, tr, 0)
	// No bytes are no byte, and what told a code wrote none.
	tells(t, tr, pwrite(fd, 500, ""), number(0))
	fails(t, tr, pwrite(fd, api.MaxFile, "x"), api.ErrBig)
	takes(t, tr, 0)
}

// P14.3: a link takes one block; all nodes take an inode, one of several names too.
func TestNeedOfLinks(t *testing.T) {
	tr := tree.New()
	goes(t, tr, symlink("x", "/a"))
	needs(t, tr, 1+1, 2)
	goes(t, tr, symlink(strings.Repeat("/.", 50), "/b"), link("/a", "/c"))
	needs(t, tr, 1+2, 3)
	makes(t, tr, "/f", "x")
	goes(t, tr, link("/f", "/g"), link("/f", "/h"))
	needs(t, tr, 2+2+1, 4)
	goes(t, tr, unlink("/a"))
	needs(t, tr, 2+2+1, 4)
	goes(t, tr, unlink("/c"), unlink("/f"), unlink("/h"))
	needs(t, tr, 2+1+1, 3)
}

// P14.3: a directory takes a quarter of the most names that it ever had at once.
func TestNeedOfDirectories(t *testing.T) {
	tr := tree.New()
	goes(t, tr, mkdir("/d"))
	needs(t, tr, 1, 2)
	for k := range 30 {
		makes(t, tr, "/d/"+long('a', k%20+1)+long('b', k/20), "")
		needs(t, tr, 1+k/4+1, 3+k)
	}
	for k := range 30 {
		goes(t, tr, unlink("/d/"+long('a', k%20+1)+long('b', k/20)))
		needs(t, tr, 1+8, 31-k)
	}
	// Names that come and go, one at a time, are no more than one at once.
	goes(t, tr, mkdir("/e"))
	for range 9 {
		goes(t, tr, mkdir("/e/x"), rename("/e/x", "/e/y"), rmdir("/e/y"))
	}
	needs(t, tr, 1+8+1, 3)
	// It is a new one, if it is made again.
	goes(t, tr, rmdir("/d"), mkdir("/d"))
	needs(t, tr, 1+0+1, 3)
}

// P14.3: a rename is no name more on the way, be it over something or over nothing.
func TestNeedOfRename(t *testing.T) {
	tr := tree.New()
	goes(t, tr, mkdir("/a"), mkdir("/b"), mkdir("/c"), mkdir("/d"))
	needs(t, tr, 1, 5)
	goes(t, tr, rename("/a", "/e"), rename("/b", "/c"))
	needs(t, tr, 1, 4)
	for _, p := range []string{"/d/1", "/d/2", "/d/3", "/d/4"} {
		makes(t, tr, p, "")
	}
	goes(t, tr, rename("/d/1", "/d/5"), rename("/d/5", "/d/2"))
	needs(t, tr, 2, 7)
	makes(t, tr, "/d/1", "")
	needs(t, tr, 2, 8)
	// From elsewhere, over one of four; then as the fifth.
	makes(t, tr, "/e/f", "")
	makes(t, tr, "/e/g", "")
	goes(t, tr, rename("/e/f", "/d/1"))
	needs(t, tr, 3, 9)
	goes(t, tr, rename("/e/g", "/d/g"))
	needs(t, tr, 4, 9)
	// Both names of one node stay.
	goes(t, tr, link("/d/g", "/e/h"), rename("/d/g", "/e/h"))
	needs(t, tr, 4, 9)
	// The names move with their directory, and with them the most that it had.
	goes(t, tr, rename("/d", "/e/d"))
	needs(t, tr, 4, 9)
}

// P14.3: also nodes without a name take what they took.
func TestNeedWithoutName(t *testing.T) {
	tr := tree.New()
	fd := opens(t, tr, "/f", strings.Repeat("x", 1000))
	goes(t, tr, mkdir("/d"), mkdir("/d/e"), rmdir("/d/e"))
	dir := opened(t, tr, "/d", 0)
	again := opened(t, tr, "/d", 0)
	needs(t, tr, 1+9+1, 3)
	goes(t, tr, unlink("/f"), rmdir("/d"))
	needs(t, tr, 1+9+1, 3)
	tells(t, tr, pwrite(fd, 3000, "x"), number(1))
	needs(t, tr, 1+9+3+1, 3)
	goes(t, tr, shut(dir))
	needs(t, tr, 1+9+3+1, 3)
	goes(t, tr, shut(again))
	needs(t, tr, 1+9+3, 2)
	// A file that another one replaced.
	makes(t, tr, "/g", "x")
	makes(t, tr, "/h", "x")
	held := opened(t, tr, "/h", 0)
	goes(t, tr, rename("/g", "/h"))
	needs(t, tr, 1+9+3+2, 4)
	goes(t, tr, shut(held))
	needs(t, tr, 1+9+3+1, 3)
	goes(t, tr, shut(fd))
	needs(t, tr, 1+1, 2)
}

// crowded asks that Crowded tells this of a geometry.
func crowded(t *testing.T, tr *tree.Tree, g api.Geometry, want bool) {
	t.Helper()
	if tr.Crowded(g) != want {
		blocks, inodes := tr.Need()
		t.Errorf("Crowded(%+v) of %d, %d: not %v", g, blocks, inodes, want)
	}
}

// P14.3: crowded by twice the blocks and 16, or twice the inodes and 2; of just as many as there are it is not.
func TestCrowded(t *testing.T) {
	tr := tree.New()
	crowded(t, tr, api.Geometry{Groups: 1, Inodes: 4, Blocks: 16}, false)
	goes(t, tr, mkdir("/d")) // a block, two inodes
	crowded(t, tr, api.Geometry{Groups: 1, Inodes: 4, Blocks: 17}, true)
	crowded(t, tr, api.Geometry{Groups: 1, Inodes: 8, Blocks: 17}, true)
	crowded(t, tr, api.Geometry{Groups: 1, Inodes: 4, Blocks: 18}, true)
	crowded(t, tr, api.Geometry{Groups: 1, Inodes: 8, Blocks: 18}, false)
	crowded(t, tr, api.Geometry{Groups: 2, Inodes: 4, Blocks: 16}, false)
	goes(t, tr, rmdir("/d"))
	crowded(t, tr, api.Geometry{Groups: 1, Inodes: 4, Blocks: 18}, false)

	// Over all numbers, up to what many groups hold.
	fd := opened(t, tr, "/f", api.FCreate|api.FWrite)
	for k := range 40 {
		tells(t, tr, pwrite(fd, 128*k, "x"), number(1))
		goes(t, tr, symlink("x", "/"+long('l', k%20+1)+long('m', k/20)))
		blocks, inodes := tr.Need()
		for _, g := range []api.Geometry{{Groups: 1, Inodes: 4, Blocks: 16}, {Groups: 1, Inodes: 32, Blocks: 16}, {Groups: 1, Inodes: 4, Blocks: 96}, {Groups: 1, Inodes: 32, Blocks: 96},
			{Groups: 2, Inodes: 16, Blocks: 40}, {Groups: 3, Inodes: 12, Blocks: 33}, {Groups: 8, Inodes: 8, Blocks: 20}, {Groups: 8, Inodes: 4, Blocks: 96}, {Groups: 8, Inodes: 32, Blocks: 16}, {Groups: 8, Inodes: 32, Blocks: 96}} {
			crowded(t, tr, g, blocks+8 > g.Groups*g.Blocks/2 || inodes+1 > g.Groups*g.Inodes/2)
		}
	}
}

// P14.3: of a geometry that may not be all is crowded: it has no block, and no inode.
func TestCrowdedOfNone(t *testing.T) {
	tr := tree.New()
	for _, g := range []api.Geometry{{}, {Groups: 9, Inodes: 32, Blocks: 96}, {Groups: 8, Inodes: 36, Blocks: 96}, {Groups: 8, Inodes: 32, Blocks: 97}, {Groups: 8, Inodes: 30, Blocks: 96}, {Groups: 8, Inodes: 32, Blocks: 15},
		{Groups: -1, Inodes: -4, Blocks: -16}, {Groups: math.MaxInt, Inodes: math.MaxInt, Blocks: math.MaxInt}, {Groups: math.MinInt, Inodes: math.MinInt, Blocks: math.MinInt}} {
		crowded(t, tr, g, true)
	}
}
