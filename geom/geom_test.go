package geom_test

import (
	"math"
	"sync"
	"testing"

	"purlin/api"
	"purlin/geom"
)

// geo makes a geometry.
func geo(groups, inodes, blocks int) api.Geometry {
	return api.Geometry{Groups: groups, Inodes: inodes, Blocks: blocks}
}

// far are numbers that are no place of any disk: also such as wrap round when something is taken from them, added, or multiplied.
func far() []int {
	return []int{
		math.MinInt, math.MinInt + 1, math.MinInt + 2, math.MinInt + 842, math.MinInt / 2, math.MinInt / 8, math.MinInt32, -1 << 16, -1000, -256, -2, -1,
		2048, 2049, 1 << 16, math.MaxInt32, 1 << 32, 1<<32 + 1, 1<<32 + 20, math.MaxInt / 8, math.MaxInt / 2, 1 << 61, 1<<61 + 1, math.MaxInt - 842, math.MaxInt - 1, math.MaxInt,
	}
}

// every calls f with each geometry that may be.
func every(f func(g api.Geometry)) {
	for groups := 1; groups <= 8; groups++ {
		for _, inodes := range []int{4, 8, 12, 16, 20, 24, 28, 32} {
			for blocks := 16; blocks <= 96; blocks++ {
				f(geo(groups, inodes, blocks))
			}
		}
	}
}

// none are geometries that may not be: each by one bound, by the fours, by several, and such as wrap round to one that may be.
func none() []api.Geometry {
	l := []api.Geometry{
		{},
		geo(0, 4, 16), geo(9, 32, 96), geo(-1, 4, 16), geo(0, 32, 96),
		geo(1, 3, 16), geo(1, 0, 16), geo(8, 33, 96), geo(8, 36, 96), geo(1, -4, 16), geo(1, -8, 16),
		geo(1, 5, 16), geo(1, 6, 16), geo(1, 7, 16), geo(8, 31, 96), geo(8, 30, 96), geo(8, 29, 96), geo(3, 18, 40),
		geo(1, 4, 15), geo(1, 4, 0), geo(8, 32, 97), geo(1, 4, -16), geo(1, 4, -1),
		geo(9, 36, 97), geo(0, 0, 15), geo(-1, -4, -16), geo(4, 16, 1), geo(16, 4, 16), geo(4, 1, 16),
	}
	for _, x := range far() {
		l = append(l, geo(x, 4, 16), geo(1, x, 16), geo(1, 4, x), geo(x, x, x))
	}
	return append(l, geo(1<<32+1, 4, 16), geo(1, 1<<32+4, 16), geo(1, 4, 1<<32+16), geo(256+1, 4, 16), geo(1, 256+4, 16), geo(1, 4, 256+16))
}

// pair is what the calls that tell two places tell.
type pair struct{ a, b int }

// nowhere is told of what there is not.
var nowhere = pair{-1, -1}

// laid is a disk laid out by hand, one sector behind the other, as the chapter tells it.
type laid struct {
	sectors int
	bits    []int        // of each group its sector
	firsts  []int        // of each group its first block
	inodes  map[int]pair // of each number sector and place
	owners  map[int]pair // of each inode's number group and number in it
	blocks  map[int]pair // of each block's sector group and number in it
}

// lay lays a disk out.
func lay(g api.Geometry) laid {
	l := laid{sectors: 2, inodes: map[int]pair{}, owners: map[int]pair{}, blocks: map[int]pair{}}
	number := 0
	for k := range g.Groups {
		l.bits = append(l.bits, l.sectors)
		l.sectors++
		for i := range g.Inodes {
			number++
			l.inodes[number] = pair{l.sectors, i % 4}
			l.owners[number] = pair{k, i}
			if i%4 == 3 {
				l.sectors++
			}
		}
		l.firsts = append(l.firsts, l.sectors)
		for i := range g.Blocks {
			l.blocks[l.sectors] = pair{k, i}
			l.sectors++
		}
	}
	return l
}

// among tells what m has of x, and nowhere of all else.
func among(m map[int]pair, x int) pair {
	if p, ok := m[x]; ok {
		return p
	}
	return nowhere
}

// at tells what l has at k, and -1 of all else.
func at(l []int, k int) int {
	if k < 0 || k >= len(l) {
		return -1
	}
	return l[k]
}

// places calls f with all places of a disk of g, with some on either side, and with far ones.
func places(g api.Geometry, f func(x int)) {
	for x := -6; x < 860; x++ {
		f(x)
	}
	for _, x := range far() {
		f(x)
	}
}

// P5.1: May: the least and the greatest, each bound from both sides, the fours.
func TestMay(t *testing.T) {
	for _, g := range []api.Geometry{
		geo(1, 4, 16), geo(8, 32, 96), geo(8, 4, 16), geo(1, 32, 16), geo(1, 4, 96), geo(1, 32, 96), geo(8, 4, 96), geo(8, 32, 16),
		geo(2, 8, 17), geo(7, 28, 95), geo(3, 12, 40), geo(4, 16, 64), geo(5, 20, 33), geo(6, 24, 50),
	} {
		if !geom.May(g) {
			t.Errorf("May(%v): false", g)
		}
	}
	for _, g := range none() {
		if geom.May(g) {
			t.Errorf("May(%v): true", g)
		}
	}
}

// P5.1: May, of all that lie about the bounds, by the fields apart.
func TestMayOfAll(t *testing.T) {
	many := 0
	for groups := -2; groups <= 20; groups++ {
		for inodes := -9; inodes <= 70; inodes++ {
			for blocks := -17; blocks <= 200; blocks++ {
				want := groups > 0 && groups < 9
				switch inodes {
				case 4, 8, 12, 16, 20, 24, 28, 32:
				default:
					want = false
				}
				want = want && blocks > 15 && blocks < 97
				if geom.May(geo(groups, inodes, blocks)) != want {
					t.Fatalf("May(%d, %d, %d): %v", groups, inodes, blocks, !want)
				}
				if want {
					many++
				}
			}
		}
	}
	if many != 8*8*81 {
		t.Errorf("%d may be", many)
	}
}

// P5.1: Sectors, Inodes, Blocks, of known ones.
func TestHowMany(t *testing.T) {
	for _, x := range []struct {
		g                       api.Geometry
		sectors, inodes, blocks int
	}{
		{geo(1, 4, 16), 20, 4, 16}, {geo(8, 32, 96), 842, 256, 768},
		{geo(2, 4, 16), 38, 8, 32}, {geo(1, 8, 16), 21, 8, 16}, {geo(1, 4, 17), 21, 4, 17},
		{geo(3, 12, 40), 134, 36, 120}, {geo(8, 4, 16), 146, 32, 128}, {geo(1, 32, 96), 107, 32, 96}, {geo(7, 28, 95), 723, 196, 665},
	} {
		if got := geom.Sectors(x.g); got != x.sectors {
			t.Errorf("Sectors(%v): %d, not %d", x.g, got, x.sectors)
		}
		if got := geom.Inodes(x.g); got != x.inodes {
			t.Errorf("Inodes(%v): %d, not %d", x.g, got, x.inodes)
		}
		if got := geom.Blocks(x.g); got != x.blocks {
			t.Errorf("Blocks(%v): %d, not %d", x.g, got, x.blocks)
		}
	}
}

// P5.1: Group, First, of known groups, and of such as there are not: below the first, behind the last.
func TestGroupAndFirst(t *testing.T) {
	for _, x := range []struct {
		g              api.Geometry
		k, bits, first int
	}{
		{geo(1, 4, 16), 0, 2, 4}, {geo(1, 4, 16), -1, -1, -1}, {geo(1, 4, 16), 1, -1, -1},
		{geo(8, 32, 96), 0, 2, 11}, {geo(8, 32, 96), 1, 107, 116}, {geo(8, 32, 96), 7, 737, 746}, {geo(8, 32, 96), 8, -1, -1}, {geo(8, 32, 96), -1, -1, -1},
		{geo(3, 12, 40), 0, 2, 6}, {geo(3, 12, 40), 1, 46, 50}, {geo(3, 12, 40), 2, 90, 94}, {geo(3, 12, 40), 3, -1, -1},
	} {
		if got := geom.Group(x.g, x.k); got != x.bits {
			t.Errorf("Group(%v, %d): %d, not %d", x.g, x.k, got, x.bits)
		}
		if got := geom.First(x.g, x.k); got != x.first {
			t.Errorf("First(%v, %d): %d, not %d", x.g, x.k, got, x.first)
		}
	}
}

// P5.1: Inode, OfInode, of known inodes, and of such as there are not.
func TestInodeAndOfInode(t *testing.T) {
	for _, x := range []struct {
		g         api.Geometry
		n         int
		place, of pair
	}{
		{geo(1, 4, 16), 1, pair{3, 0}, pair{0, 0}}, {geo(1, 4, 16), 2, pair{3, 1}, pair{0, 1}}, {geo(1, 4, 16), 4, pair{3, 3}, pair{0, 3}},
		{geo(1, 4, 16), 0, nowhere, nowhere}, {geo(1, 4, 16), 5, nowhere, nowhere}, {geo(1, 4, 16), -1, nowhere, nowhere},
		{geo(8, 32, 96), 1, pair{3, 0}, pair{0, 0}}, {geo(8, 32, 96), 5, pair{4, 0}, pair{0, 4}}, {geo(8, 32, 96), 32, pair{10, 3}, pair{0, 31}},
		{geo(8, 32, 96), 33, pair{108, 0}, pair{1, 0}}, {geo(8, 32, 96), 256, pair{745, 3}, pair{7, 31}}, {geo(8, 32, 96), 257, nowhere, nowhere}, {geo(8, 32, 96), 0, nowhere, nowhere},
		{geo(3, 12, 40), 8, pair{4, 3}, pair{0, 7}}, {geo(3, 12, 40), 12, pair{5, 3}, pair{0, 11}}, {geo(3, 12, 40), 13, pair{47, 0}, pair{1, 0}}, {geo(3, 12, 40), 31, pair{92, 2}, pair{2, 6}}, {geo(3, 12, 40), 36, pair{93, 3}, pair{2, 11}}, {geo(3, 12, 40), 37, nowhere, nowhere},
	} {
		if s, i := geom.Inode(x.g, x.n); (pair{s, i}) != x.place {
			t.Errorf("Inode(%v, %d): %d, %d, not %v", x.g, x.n, s, i, x.place)
		}
		if k, i := geom.OfInode(x.g, x.n); (pair{k, i}) != x.of {
			t.Errorf("OfInode(%v, %d): %d, %d, not %v", x.g, x.n, k, i, x.of)
		}
	}
}

// P5.1: OfBlock, of known blocks, of sectors that are none, and of none at all.
func TestOfBlock(t *testing.T) {
	for _, x := range []struct {
		g    api.Geometry
		s    int
		want pair
	}{
		{geo(1, 4, 16), 4, pair{0, 0}}, {geo(1, 4, 16), 5, pair{0, 1}}, {geo(1, 4, 16), 19, pair{0, 15}},
		{geo(1, 4, 16), 20, nowhere}, {geo(1, 4, 16), 3, nowhere}, {geo(1, 4, 16), 2, nowhere}, {geo(1, 4, 16), 1, nowhere}, {geo(1, 4, 16), 0, nowhere}, {geo(1, 4, 16), -1, nowhere},
		{geo(8, 32, 96), 10, nowhere}, {geo(8, 32, 96), 11, pair{0, 0}}, {geo(8, 32, 96), 106, pair{0, 95}}, {geo(8, 32, 96), 107, nowhere}, {geo(8, 32, 96), 115, nowhere}, {geo(8, 32, 96), 116, pair{1, 0}},
		{geo(8, 32, 96), 745, nowhere}, {geo(8, 32, 96), 746, pair{7, 0}}, {geo(8, 32, 96), 841, pair{7, 95}}, {geo(8, 32, 96), 842, nowhere},
		{geo(3, 12, 40), 45, pair{0, 39}}, {geo(3, 12, 40), 46, nowhere}, {geo(3, 12, 40), 49, nowhere}, {geo(3, 12, 40), 50, pair{1, 0}}, {geo(3, 12, 40), 133, pair{2, 39}}, {geo(3, 12, 40), 134, nowhere},
	} {
		if k, i := geom.OfBlock(x.g, x.s); (pair{k, i}) != x.want {
			t.Errorf("OfBlock(%v, %d): %d, %d, not %v", x.g, x.s, k, i, x.want)
		}
	}
}

// P5.1: all calls, of every geometry that may be, as a disk laid out by hand has it; some groups on either side, too.
func TestEveryGeometry(t *testing.T) {
	every(func(g api.Geometry) {
		l := lay(g)
		if geom.Sectors(g) != l.sectors || geom.Inodes(g) != len(l.inodes) || geom.Blocks(g) != len(l.blocks) {
			t.Fatalf("%v: Sectors, Inodes, Blocks: %d, %d, %d", g, geom.Sectors(g), geom.Inodes(g), geom.Blocks(g))
		}
		for k := -3; k < 12; k++ {
			if geom.Group(g, k) != at(l.bits, k) || geom.First(g, k) != at(l.firsts, k) {
				t.Fatalf("%v: Group, First of %d: %d, %d", g, k, geom.Group(g, k), geom.First(g, k))
			}
		}
		for n := 1; n <= len(l.inodes); n++ {
			if s, i := geom.Inode(g, n); (pair{s, i}) != l.inodes[n] {
				t.Fatalf("Inode(%v, %d): %d, %d", g, n, s, i)
			}
			if k, i := geom.OfInode(g, n); (pair{k, i}) != l.owners[n] {
				t.Fatalf("OfInode(%v, %d): %d, %d", g, n, k, i)
			}
		}
		for s := range l.sectors {
			if k, i := geom.OfBlock(g, s); (pair{k, i}) != among(l.blocks, s) {
				t.Fatalf("OfBlock(%v, %d): %d, %d", g, s, k, i)
			}
		}
	})
}

// P5.1: of places that there are not, near or far, -1 is told.
func TestNoSuchPlace(t *testing.T) {
	for _, g := range []api.Geometry{geo(1, 4, 16), geo(1, 32, 96), geo(8, 4, 16), geo(8, 32, 96), geo(3, 12, 40)} {
		l := lay(g)
		places(g, func(x int) {
			if geom.Group(g, x) != at(l.bits, x) || geom.First(g, x) != at(l.firsts, x) {
				t.Errorf("%v: Group, First of %d: %d, %d", g, x, geom.Group(g, x), geom.First(g, x))
			}
			if s, i := geom.Inode(g, x); (pair{s, i}) != among(l.inodes, x) {
				t.Errorf("Inode(%v, %d): %d, %d", g, x, s, i)
			}
			if k, i := geom.OfInode(g, x); (pair{k, i}) != among(l.owners, x) {
				t.Errorf("OfInode(%v, %d): %d, %d", g, x, k, i)
			}
			if k, i := geom.OfBlock(g, x); (pair{k, i}) != among(l.blocks, x) {
				t.Errorf("OfBlock(%v, %d): %d, %d", g, x, k, i)
			}
		})
	}
}

// P5.1: of a geometry that may not be all is 0, or -1 of places, whatever place is asked for.
func TestNoSuchGeometry(t *testing.T) {
	for _, g := range none() {
		if geom.Sectors(g) != 0 || geom.Inodes(g) != 0 || geom.Blocks(g) != 0 {
			t.Errorf("%v: Sectors, Inodes, Blocks: %d, %d, %d", g, geom.Sectors(g), geom.Inodes(g), geom.Blocks(g))
		}
		places(g, func(x int) {
			if geom.Group(g, x) != -1 || geom.First(g, x) != -1 {
				t.Fatalf("%v: Group, First of %d: %d, %d", g, x, geom.Group(g, x), geom.First(g, x))
			}
			if s, i := geom.Inode(g, x); (pair{s, i}) != nowhere {
				t.Fatalf("Inode(%v, %d): %d, %d", g, x, s, i)
			}
			if k, i := geom.OfInode(g, x); (pair{k, i}) != nowhere {
				t.Fatalf("OfInode(%v, %d): %d, %d", g, x, k, i)
			}
			if k, i := geom.OfBlock(g, x); (pair{k, i}) != nowhere {
				t.Fatalf("OfBlock(%v, %d): %d, %d", g, x, k, i)
			}
		})
	}
}

// P5.1: several goroutines may ask at one time, each of its own disk.
func TestFromSeveralGoroutines(t *testing.T) {
	var all sync.WaitGroup
	for k := range 8 {
		all.Add(1)
		go func() {
			defer all.Done()
			g := geo(k+1, 4*(k+1), 16+10*k)
			l := lay(g)
			for range 20 {
				for s := range l.sectors {
					if k, i := geom.OfBlock(g, s); (pair{k, i}) != among(l.blocks, s) {
						t.Errorf("OfBlock(%v, %d): %d, %d", g, s, k, i)
						return
					}
				}
			}
		}()
	}
	all.Wait()
}
