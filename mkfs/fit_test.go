package mkfs_test

import (
	"math"
	"slices"
	"testing"
	"time"

	"purlin/api"
	"purlin/disk"
	"purlin/mkfs"
)

// most is how many sectors the greatest geometry takes.
const most = 2 + 8*(1+8+96)

// few are numbers of sectors that no geometry has.
func few() []int {
	ns := []int{math.MinInt, math.MinInt + 1, math.MinInt + 2, math.MinInt32, -1 << 32, -2048, -842, -20, -2, -1}
	for n := range 20 {
		ns = append(ns, n)
	}
	return ns
}

// many are numbers of sectors that have room for every geometry.
func many() []int {
	return []int{most, most + 1, most + 8, 1000, 2047, 2048, 2049, 1 << 16, math.MaxInt32, 1 << 32, 1<<32 + 1, math.MaxInt - 2, math.MaxInt - 1, math.MaxInt}
}

// byWords goes through all geometries that may be, point by point as the chapter names them: what fits; of these those of the most blocks in all; of these those of the most inodes; of these that of the fewest groups.
func byWords(gs []api.Geometry, sectorsOf int) api.Geometry {
	left := slices.DeleteFunc(slices.Clone(gs), func(g api.Geometry) bool { return sectors(g) > sectorsOf })
	for _, worth := range []func(g api.Geometry) int{
		func(g api.Geometry) int { return g.Groups * g.Blocks },
		func(g api.Geometry) int { return g.Groups * g.Inodes },
		func(g api.Geometry) int { return -g.Groups },
	} {
		best := math.MinInt
		for _, g := range left {
			best = max(best, worth(g))
		}
		left = slices.DeleteFunc(left, func(g api.Geometry) bool { return worth(g) < best })
	}
	if len(left) == 0 {
		return api.Geometry{}
	}
	return left[0]
}

// P20.1: Fit, of fewer sectors than any geometry has: zero, as the chapter's example tells of 19; of 20 the least one.
func TestFitOfTooFew(t *testing.T) {
	for _, n := range few() {
		if g := mkfs.Fit(n); g != (api.Geometry{}) {
			t.Errorf("Fit(%d): %v", n, g)
		}
	}
	if g := mkfs.Fit(20); g != geo(1, 4, 16) {
		t.Errorf("Fit(20): %v", g)
	}
}

// P20.1: Fit, of as many sectors as the greatest geometry has, and of more, as many as an int can tell: that one; of one fewer another one.
func TestFitOfMany(t *testing.T) {
	for _, n := range many() {
		if g := mkfs.Fit(n); g != geo(8, 32, 96) {
			t.Errorf("Fit(%d): %v", n, g)
		}
	}
	if g := mkfs.Fit(most - 1); g != geo(8, 28, 96) {
		t.Errorf("Fit(%d): %v", most-1, g)
	}
}

// P20.1: Fit, of numbers about which it is plain by hand: one block more counts more than any inodes.
func TestFitKnown(t *testing.T) {
	for n, want := range map[int]api.Geometry{
		21:  geo(1, 4, 17),  // {1, 8, 16} fits too, of more inodes
		28:  geo(1, 4, 24),  // {1, 32, 17} fits too
		38:  geo(1, 4, 34),  // {2, 4, 16} fits too, of 32 blocks
		100: geo(1, 4, 96),  // a single group has no more blocks
		101: geo(1, 8, 96),  // so it has more inodes
		102: geo(1, 12, 96), // {2, 4, 48} fits too, of as many blocks, but of 8 inodes
		103: geo(1, 16, 96),
		104: geo(2, 4, 49), // {1, 20, 96} fits too, of two blocks fewer
		105: geo(2, 4, 49),
		106: geo(2, 4, 50),
		198: geo(2, 4, 96),
		200: geo(2, 8, 96),
		202: geo(2, 12, 96),
		203: geo(3, 4, 65), // {2, 12, 96} fits too, of three blocks fewer
	} {
		if g := mkfs.Fit(n); g != want {
			t.Errorf("Fit(%d): %v, not %v", n, g, want)
		}
	}
}

// P20.1: Fit, of each number of sectors up to more than the greatest geometry has, held against all geometries that may be.
func TestFitOfEachNumber(t *testing.T) {
	gs := all()
	for n := -3; n <= most+10; n++ {
		if g, want := mkfs.Fit(n), byWords(gs, n); g != want {
			t.Fatalf("Fit(%d): %v, not %v", n, g, want)
		}
	}
}

// P20.1: Fit: what it tells fits, of as many sectors as that takes the same is told, and more sectors never have fewer blocks.
func TestFitRises(t *testing.T) {
	blocks := 0
	for n := 20; n <= most+10; n++ {
		g := mkfs.Fit(n)
		if took := sectors(g); took > n || mkfs.Fit(took) != g {
			t.Fatalf("Fit(%d): %v, of %d sectors, of which %v is told", n, g, took, mkfs.Fit(took))
		}
		if g.Groups*g.Blocks < blocks {
			t.Fatalf("Fit(%d): %v has fewer than %d blocks", n, g, blocks)
		}
		blocks = g.Groups * g.Blocks
	}
}

// P20.1: a disk of so many sectors can be formatted by what Fit tells of it, whatever it is told.
func TestFitIsFormatted(t *testing.T) {
	for n := 1; n <= most+3; n++ {
		g := mkfs.Fit(n)
		if n < 20 {
			if image := mkfs.Image(g); len(image) != 0 {
				t.Fatalf("Fit(%d): %v has an image", n, g)
			}
			continue
		}
		d := disk.New(sectors(g))
		format(t, d, g)
		if n%40 == 0 {
			newly(t, "fitted", d, g)
		}
	}
}

// R1: Fit ends in a short time, of every number of sectors.
func TestFitEnds(t *testing.T) {
	begin := time.Now()
	for range 20 {
		for _, n := range append(few(), many()...) {
			mkfs.Fit(n)
		}
		for bit := range 64 {
			mkfs.Fit(1 << bit)
			mkfs.Fit(-1 << bit)
			mkfs.Fit(1<<bit - 1)
		}
	}
	// These are some 5,000 calls: moments, on the slowest of machines too.
	if took := time.Since(begin); took > 10*time.Second {
		t.Errorf("it took %v", took)
	}
}
