package alloc_test

import (
	"math"
	"testing"

	"purlin/alloc"
	"purlin/api"
)

// every calls f with each geometry that may be.
func every(f func(g api.Geometry)) {
	for groups := 1; groups <= 8; groups++ {
		for inodes := 4; inodes <= 32; inodes += 4 {
			for blocks := 16; blocks <= 96; blocks++ {
				f(geo(groups, inodes, blocks))
			}
		}
	}
}

// P16.1: New of each geometry that may be: nothing is taken.
func TestNew(t *testing.T) {
	every(func(g api.Geometry) {
		s := alloc.New(g)
		if s == nil {
			t.Fatalf("New(%v) told nil", g)
		}
		if i, b := s.Left(); i != g.Groups*g.Inodes || b != g.Groups*g.Blocks {
			t.Fatalf("New(%v): Left: %d, %d", g, i, b)
		}
		if n := s.Firm(); n != 0 {
			t.Fatalf("New(%v): Firm: %d", g, n)
		}
	})
	for _, g := range some {
		newPair(t, g).same()
	}
}

// P16.1: New of a geometry that may not be, by each bound, by the fours, and of such as wrap round to one that may be.
func TestNewOfNone(t *testing.T) {
	l := []api.Geometry{
		{}, geo(0, 4, 16), geo(9, 4, 16), geo(9, 32, 96), geo(-1, 4, 16),
		geo(1, 0, 16), geo(1, 3, 16), geo(1, 36, 16), geo(8, 33, 96), geo(1, -4, 16),
		geo(1, 5, 16), geo(1, 6, 16), geo(1, 7, 16), geo(1, 30, 16),
		geo(1, 4, 0), geo(1, 4, 15), geo(8, 32, 97), geo(1, 4, -16),
		geo(256+1, 4, 16), geo(1, 256+4, 16), geo(1, 4, 256+16), geo(1<<32+1, 4, 16), geo(1, 1<<32+4, 16), geo(1, 4, 1<<32+16),
	}
	for _, x := range far {
		l = append(l, geo(x, 4, 16), geo(1, x, 16), geo(1, 4, x), geo(x, x, x))
	}
	for _, g := range l {
		if alloc.New(g) != nil {
			t.Errorf("New(%v) told a space", g)
		}
	}
}

// P16.1: the example of the chapter.
func TestExample(t *testing.T) {
	s := alloc.New(geo(1, 4, 16))
	for want := 1; want <= 2; want++ {
		if n, code := s.Inode(0); n != want || code != api.OK {
			t.Errorf("Inode(0): %d, %d, not %d", n, code, want)
		}
	}
}

// counts are how many blocks are free in the groups of a space, and which group is told near 0, 1, 2, and near no group.
type counts struct {
	free [3]int
	want [3]int
	none int
}

// P16.1: Group: as much, more, just twice as much, more than twice as much, nothing.
func TestGroup(t *testing.T) {
	for _, c := range []counts{
		{[3]int{20, 20, 20}, [3]int{0, 1, 2}, 0}, // as much everywhere: near, or the first one
		{[3]int{1, 1, 1}, [3]int{0, 1, 2}, 0},
		{[3]int{10, 11, 10}, [3]int{0, 1, 2}, 1}, // more, but not twice as much
		{[3]int{10, 19, 11}, [3]int{0, 1, 2}, 1},
		{[3]int{10, 20, 10}, [3]int{0, 1, 1}, 1}, // just twice as much: the first one of both
		{[3]int{20, 10, 10}, [3]int{0, 0, 0}, 0},
		{[3]int{10, 10, 20}, [3]int{0, 1, 2}, 2},
		{[3]int{10, 5, 10}, [3]int{0, 0, 2}, 0},
		{[3]int{5, 10, 10}, [3]int{0, 1, 2}, 1}, // twice as much as near by two: near stands first
		{[3]int{10, 20, 20}, [3]int{0, 1, 2}, 1},
		{[3]int{20, 20, 10}, [3]int{0, 1, 0}, 0},
		{[3]int{20, 10, 20}, [3]int{0, 0, 2}, 0},
		{[3]int{9, 19, 1}, [3]int{1, 1, 1}, 1}, // more than twice as much
		{[3]int{1, 1, 3}, [3]int{2, 2, 2}, 2},
		{[3]int{20, 9, 9}, [3]int{0, 0, 0}, 0},
		{[3]int{0, 1, 0}, [3]int{1, 1, 1}, 1}, // a full one is never told, near or not
		{[3]int{0, 0, 1}, [3]int{2, 2, 2}, 2},
		{[3]int{1, 0, 0}, [3]int{0, 0, 0}, 0},
		{[3]int{0, 3, 3}, [3]int{1, 1, 2}, 1},
		{[3]int{4, 0, 8}, [3]int{0, 2, 2}, 2},
		{[3]int{0, 0, 0}, [3]int{-1, -1, -1}, -1},
	} {
		p := newPair(t, geo(3, 20, 20))
		for k, n := range c.free {
			// The inodes are free the other way round, so that they are not taken for the blocks.
			p.spare(k, 20-n, n)
		}
		for near, want := range c.want {
			if got := p.s.Group(near, false); got != want {
				t.Errorf("%v: Group(%d, false): %d, not %d", c.free, near, got, want)
			}
			p.group(near, true)
		}
		for _, near := range append(far, 3, 4, 8) {
			if got := p.s.Group(near, false); got != c.none {
				t.Errorf("%v: Group(%d, false): %d, not %d", c.free, near, got, c.none)
			}
			p.group(near, true)
		}
		p.same()
	}
}

// P16.1: Group of one group: that one, wherever near is, as long as something is free.
func TestGroupOfOne(t *testing.T) {
	p := newPair(t, geo(1, 4, 16))
	for n := 4; n >= 0; n-- {
		want := 0
		if n == 0 {
			want = -1
		}
		for _, near := range append(far, 0, 1, 2, 8) {
			if got := p.s.Group(near, true); got != want {
				t.Errorf("%d free: Group(%d, true): %d, not %d", n, near, got, want)
			}
			if got := p.s.Group(near, false); got != 0 {
				t.Errorf("Group(%d, false): %d", near, got)
			}
		}
		p.take(0, true)
	}
}

// P16.1: Group: just twice as much is as good, one less is not, in groups of each size: shares of any size may not lose that.
func TestGroupOfTwiceAsMuch(t *testing.T) {
	for size := 16; size <= 96; size++ {
		p, q := newPair(t, geo(2, 4, size)), newPair(t, geo(2, 4, size))
		p.spare(0, 4, 0)
		p.spare(1, 4, 0)
		q.spare(0, 4, 0)
		q.spare(1, 4, 0)
		for n := 1; 2*n <= size; n++ {
			// The group that is near (in p the first one, in q the other one) has n free; the other one 2n-1, then 2n, then one more.
			p.give(0, 1)
			q.give(1, 1)
			p.give(1, 1)
			q.give(0, 1)
			p.tells(0, 0, "one less than twice as much")
			q.tells(1, 1, "one less than twice as much")
			p.give(1, 1)
			q.give(0, 1)
			p.tells(0, 0, "just twice as much")
			q.tells(1, 0, "just twice as much")
			if 2*n == size {
				break
			}
			p.give(1, 1)
			q.give(0, 1)
			p.tells(0, 1, "one more than twice as much")
			q.tells(1, 0, "one more than twice as much")
			_, code := p.take(1, false)
			_, again := q.take(0, false)
			if code != api.OK || again != api.OK {
				t.Fatalf("Block: %d, %d", code, again)
			}
		}
	}
}

// give makes so many blocks of a group free.
func (p pair) give(k, n int) {
	p.t.Helper()
	for _, x := range p.m.blocks[k] {
		if n > 0 && x.is == isTaken {
			p.postpone(0, x.number)
			n--
		}
	}
	p.firm()
}

// tells asks which group is told near one.
func (p pair) tells(near, want int, why string) {
	p.t.Helper()
	if got := p.s.Group(near, false); got != want {
		p.t.Fatalf("%v, %s: Group(%d, false): %d, not %d", p.m.g, why, near, got, want)
	}
}

// P16.1: Group takes nothing, of inodes and of blocks.
func TestGroupTakesNothing(t *testing.T) {
	p := newPair(t, geo(3, 8, 16))
	for range 50 {
		p.group(1, true)
		p.group(2, false)
	}
	if i, b := p.s.Left(); i != 24 || b != 48 {
		t.Errorf("Left: %d, %d", i, b)
	}
}

// P16.1: Group counts a deferred one as taken till it is firm.
func TestGroupOfDeferred(t *testing.T) {
	p := newPair(t, geo(2, 4, 16))
	p.spare(0, 0, 0)
	p.spare(1, 1, 1)
	for i := range 4 {
		p.postpone(1+i, 0)
		p.same()
	}
	for i := range 16 {
		p.postpone(0, 4+i)
		p.same()
	}
	if i, b := p.s.Group(0, true), p.s.Group(0, false); i != 1 || b != 1 {
		t.Errorf("ahead of Firm: %d, %d", i, b)
	}
	p.firm()
	if i, b := p.s.Group(0, true), p.s.Group(0, false); i != 0 || b != 0 {
		t.Errorf("behind Firm: %d, %d", i, b)
	}
	p.same()
}

// P16.1: Inode, Block: known numbers, in the first group and in the last.
func TestKnownNumbers(t *testing.T) {
	// Two groups: 0 the superblock, 1 the record, 2 bits, 3 and 4 inodes, 5 to 24 blocks, 25 bits, 26 and 27 inodes, 28 to 47 blocks.
	s := alloc.New(geo(2, 8, 20))
	for _, c := range []struct{ near, inode, block int }{
		{0, 1, 5}, {0, 2, 6}, {1, 9, 28}, {1, 10, 29}, {0, 3, 7}, {-1, 11, 30}, {2, 4, 8},
	} {
		if n, code := s.Inode(c.near); n != c.inode || code != api.OK {
			t.Errorf("Inode(%d): %d, %d, not %d", c.near, n, code, c.inode)
		}
		if n, code := s.Block(c.near); n != c.block || code != api.OK {
			t.Errorf("Block(%d): %d, %d, not %d", c.near, n, code, c.block)
		}
	}
	if i, b := s.Left(); i != 9 || b != 33 {
		t.Errorf("Left: %d, %d", i, b)
	}
}

// P16.1: Inode, Block: the first one that is free, wherever it stands, with others behind it that are taken, and free ones behind these.
func TestFirstFreeOne(t *testing.T) {
	g := geo(3, 32, 96)
	for k := range g.Groups {
		for i := range g.Blocks {
			p := newPair(t, g)
			p.spare((k+1)%3, 0, 0)
			p.spare((k+2)%3, 0, 0)
			hole := i * g.Inodes / g.Blocks
			for _, x := range p.m.blocks[k][:i] {
				p.mark(0, x.number)
			}
			for _, x := range p.m.inodes[k][:hole] {
				p.mark(x.number, 0)
			}
			p.mark(0, p.m.blocks[k][min(i+1, g.Blocks-1)].number)
			p.mark(p.m.inodes[k][min(hole+1, g.Inodes-1)].number, 0)
			for range 2 {
				p.take(i%3, true)
				p.take(i%3, false)
			}
			p.same()
		}
	}
}

// P16.1: Inode, Block: all that there are, each once, near each group, near none, and by turns; behind it ErrSpace, again and again, and nothing is changed.
func TestTakeAll(t *testing.T) {
	for _, g := range some {
		for _, near := range []func(int) int{
			func(int) int { return 0 },
			func(int) int { return g.Groups - 1 },
			func(int) int { return -1 },
			func(int) int { return math.MaxInt },
			func(i int) int { return i % (g.Groups + 1) },
		} {
			takeAll(t, g, near)
		}
	}
}

// takeAll takes all inodes and all blocks of a space.
func takeAll(t *testing.T, g api.Geometry, near func(int) int) {
	t.Helper()
	p := newPair(t, g)
	seen := map[int]int{}
	for i := range g.Groups * g.Inodes {
		n, code := p.take(near(i), true)
		seen[n]++
		if code != api.OK || seen[n] != 1 || n < 1 || n > g.Groups*g.Inodes {
			t.Fatalf("%v: Inode: %d, %d", g, n, code)
		}
	}
	clear(seen)
	for i := range g.Groups * g.Blocks {
		n, code := p.take(near(i), false)
		seen[n]++
		if code != api.OK || seen[n] != 1 || p.m.blocks.find(n) == nil {
			t.Fatalf("%v: Block: %d, %d", g, n, code)
		}
	}
	p.same()
	for i := range 3 {
		if n, code := p.s.Inode(near(i)); n != 0 || code != api.ErrSpace {
			t.Fatalf("%v: Inode of a full one: %d, %d", g, n, code)
		}
		if n, code := p.s.Block(near(i)); n != 0 || code != api.ErrSpace {
			t.Fatalf("%v: Block of a full one: %d, %d", g, n, code)
		}
		p.same()
	}
}

// P16.1: Inode, Block: each has its own room: no inode is free, but blocks are, and the other way round.
func TestOneKindIsFull(t *testing.T) {
	for _, inodes := range []bool{false, true} {
		p := newPair(t, geo(2, 8, 17))
		for range len(p.of(inodes)) * len(p.of(inodes)[0]) {
			p.take(0, inodes)
		}
		if _, code := p.take(0, inodes); code != api.ErrSpace {
			t.Errorf("%v: %d", inodes, code)
		}
		if _, code := p.take(0, !inodes); code != api.OK {
			t.Errorf("not %v: %d", inodes, code)
		}
		p.same()
	}
}

// P16.1: Inode, Block: what is deferred is not told till it is firm, even if nothing else is left.
func TestTakeOfDeferred(t *testing.T) {
	for _, g := range some {
		for _, inodes := range []bool{false, true} {
			p := newPair(t, g)
			l := p.of(inodes)
			for range len(l) * len(l[0]) {
				p.take(0, inodes)
			}
			last := l[g.Groups-1][len(l[0])-1].number
			if inodes {
				p.postpone(last, 0)
			} else {
				p.postpone(0, last)
			}
			if n, code := p.take(g.Groups-1, inodes); n != 0 || code != api.ErrSpace {
				t.Errorf("%v, %v ahead of Firm: %d, %d", g, inodes, n, code)
			}
			p.firm()
			if n, code := p.take(0, inodes); n != last || code != api.OK {
				t.Errorf("%v, %v behind Firm: %d, %d", g, inodes, n, code)
			}
			if _, code := p.take(0, inodes); code != api.ErrSpace {
				t.Errorf("%v, %v behind that: %d", g, inodes, code)
			}
		}
	}
}
