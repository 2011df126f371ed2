package alloc_test

import (
	"bytes"
	"testing"

	"purlin/alloc"
	"purlin/api"
)

// none tells pairs of numbers that tell no inode and no block of a geometry: both 0, neither 0, below 0, beyond the last, sectors that are no blocks.
func none(g api.Geometry) [][2]int {
	m := newModel(g)
	last, end := g.Groups*g.Inodes, m.sectors
	block := m.blocks[0][0].number
	l := [][2]int{{0, 0}, {1, block}, {last, end - 1}, {1, 1}, {1, -1}, {-1, block}, {-1, -1}, {last + 1, end}, {1, end}, {last + 1, block}, {last + 1, 0}, {last + 2, 0}, {0, end}, {0, end + 1}}
	for s := 1; s < end; s++ {
		if m.blocks.find(s) == nil {
			l = append(l, [2]int{0, s})
		}
	}
	for _, x := range far {
		l = append(l, [2]int{x, 0}, [2]int{0, x}, [2]int{x, x}, [2]int{1, x}, [2]int{x, block})
	}
	return l
}

// P16.2: Mark, Defer: ErrArg of what is no inode and no block, ahead of all else, and nothing is changed.
func TestNoSuchThing(t *testing.T) {
	for _, g := range some {
		p := newPair(t, g)
		for round := range 3 {
			for _, x := range none(g) {
				if code := p.s.Mark(x[0], x[1]); code != api.ErrArg {
					t.Fatalf("%v: Mark(%d, %d): %d", g, x[0], x[1], code)
				}
				if code := p.s.Defer(x[0], x[1]); code != api.ErrArg {
					t.Fatalf("%v: Defer(%d, %d): %d", g, x[0], x[1], code)
				}
			}
			p.same()
			switch round {
			case 0: // the next round finds both taken, the last one both deferred
				p.mark(1, 0)
				p.mark(0, p.m.blocks[0][0].number)
			case 1:
				p.postpone(1, 0)
				p.postpone(0, p.m.blocks[0][0].number)
			}
		}
		if n := p.firm(); n != 2 {
			t.Fatalf("%v: Firm: %d", g, n)
		}
		p.same()
	}
}

// P16.2: Mark, Defer: each number of an inode by itself, and each sector, a few on either side of all too.
func TestEachNumber(t *testing.T) {
	for _, g := range some {
		p := newPair(t, g)
		inodes, blocks := 0, 0
		for n := -5; n <= g.Groups*g.Inodes+5; n++ {
			if p.mark(n, 0) == api.OK {
				inodes++
			}
		}
		for s := -5; s <= p.m.sectors+5; s++ {
			if p.mark(0, s) == api.OK {
				blocks++
			}
		}
		if inodes != g.Groups*g.Inodes || blocks != g.Groups*g.Blocks {
			t.Fatalf("%v: %d, %d", g, inodes, blocks)
		}
		p.same()
		for n := g.Groups*g.Inodes + 5; n >= -5; n-- {
			p.postpone(n, 0)
		}
		for s := p.m.sectors + 5; s >= -5; s-- {
			p.postpone(0, s)
		}
		p.same()
		if n := p.firm(); n != inodes+blocks {
			t.Fatalf("%v: Firm: %d", g, n)
		}
		p.same()
	}
}

// life is all that may befall an inode or a block, from its being free to its being free again; all is asked twice, so that what is refused is seen to change nothing.
func life(p pair, inode, block int) {
	p.t.Helper()
	is := func(what string, got, want api.Errno) {
		p.t.Helper()
		if got != want {
			p.t.Fatalf("%v: %s of %d, %d: %d, not %d", p.m.g, what, inode, block, got, want)
		}
		p.same()
	}
	firm := func(want int) {
		p.t.Helper()
		if n := p.firm(); n != want {
			p.t.Fatalf("%v: Firm with %d, %d: %d, not %d", p.m.g, inode, block, n, want)
		}
		p.same()
	}
	for range 2 {
		is("Defer of a free one", p.postpone(inode, block), api.ErrNone)
		is("Defer of a free one", p.postpone(inode, block), api.ErrNone)
		firm(0)
		is("Mark of a free one", p.mark(inode, block), api.OK)
		is("Mark of a taken one", p.mark(inode, block), api.ErrExist)
		is("Mark of a taken one", p.mark(inode, block), api.ErrExist)
		firm(0)
		is("Defer of a taken one", p.postpone(inode, block), api.OK)
		is("Defer of a deferred one", p.postpone(inode, block), api.ErrNone)
		is("Mark of a deferred one", p.mark(inode, block), api.ErrExist)
		is("Defer of a deferred one", p.postpone(inode, block), api.ErrNone)
		firm(1)
		firm(0)
	}
}

// P16.2: Mark, Defer, Firm: of inodes and of blocks, in the first group and in the last, free, taken, deferred, free again.
func TestLife(t *testing.T) {
	for _, g := range some {
		p := newPair(t, g)
		last := g.Groups - 1
		for _, x := range []int{1, 2, g.Inodes, g.Groups*g.Inodes - 1, g.Groups * g.Inodes} {
			life(p, x, 0)
		}
		for _, x := range []thing{p.m.blocks[0][0], p.m.blocks[0][g.Blocks-1], p.m.blocks[last][0], p.m.blocks[last][g.Blocks-1]} {
			life(p, 0, x.number)
		}
		// Beside others that are taken, and deferred, it is the same.
		p.mark(3, 0)
		p.mark(0, p.m.blocks[last][2].number)
		life(p, 1, 0)
		life(p, 0, p.m.blocks[last][3].number)
	}
}

// P16.2: Mark, Defer: an inode and a block of one number are two things; blocks begin where some inodes' numbers lie.
func TestOneNumberOfBothKinds(t *testing.T) {
	p := newPair(t, geo(2, 32, 16))
	for n := 11; n <= 26; n++ { // both an inode and a block of the first group
		if p.mark(n, 0) != api.OK {
			t.Fatalf("Mark(%d, 0)", n)
		}
		if p.postpone(0, n) != api.ErrNone {
			t.Fatalf("Defer(0, %d)", n)
		}
		if p.mark(0, n) != api.OK {
			t.Fatalf("Mark(0, %d)", n)
		}
		if p.postpone(n, 0) != api.OK || p.firm() != 1 || p.mark(0, n) != api.ErrExist {
			t.Fatalf("Defer(%d, 0)", n)
		}
		p.same()
	}
}

// P16.2: Mark, Defer of what Inode and Block took; what Mark took they do not.
func TestTakenEitherWay(t *testing.T) {
	p := newPair(t, geo(2, 8, 20))
	inode, _ := p.take(1, true)
	block, _ := p.take(1, false)
	if p.mark(inode, 0) != api.ErrExist || p.mark(0, block) != api.ErrExist {
		t.Error("Mark of what is taken")
	}
	if p.postpone(inode, 0) != api.OK || p.postpone(0, block) != api.OK || p.firm() != 2 {
		t.Error("Defer of what is taken")
	}
	p.mark(inode, 0)
	p.mark(0, block)
	if n, _ := p.take(1, true); n != inode+1 {
		t.Errorf("Inode: %d", n)
	}
	if n, _ := p.take(1, false); n != block+1 {
		t.Errorf("Block: %d", n)
	}
	p.same()
}

// P16.2: Firm: with none, with inodes, with blocks, with both, in several groups; and twice in a row.
func TestFirm(t *testing.T) {
	g := geo(3, 12, 20)
	for inodes := 0; inodes <= 12; inodes += 3 {
		for blocks := 0; blocks <= 20; blocks += 4 {
			p := newPair(t, g)
			for k := range g.Groups {
				p.spare(k, 0, 0)
				for _, x := range p.m.inodes[k][12-inodes:] {
					p.postpone(x.number, 0)
				}
				for _, x := range p.m.blocks[k][:blocks] {
					p.postpone(0, x.number)
				}
			}
			if i, b := p.s.Left(); i != 0 || b != 0 {
				t.Errorf("Left ahead of Firm: %d, %d", i, b)
			}
			p.same()
			if n := p.firm(); n != 3*inodes+3*blocks {
				t.Errorf("Firm: %d, not %d", n, 3*inodes+3*blocks)
			}
			if i, b := p.s.Left(); i != 3*inodes || b != 3*blocks {
				t.Errorf("Left behind Firm: %d, %d", i, b)
			}
			p.same()
			for range 2 {
				if n := p.firm(); n != 0 {
					t.Errorf("Firm again: %d", n)
				}
				p.same()
			}
			// What became free can be taken, and deferred, anew.
			if inodes > 0 && (p.mark(36, 0) != api.OK || p.postpone(36, 0) != api.OK || p.firm() != 1) {
				t.Error("an inode anew")
			}
			if blocks > 0 && (p.mark(0, 6) != api.OK || p.postpone(0, 6) != api.OK || p.firm() != 1) {
				t.Error("a block anew")
			}
			p.same()
		}
	}
}

// P16.2: Bits, Left: known ones.
func TestKnownBits(t *testing.T) {
	s := alloc.New(geo(2, 12, 17)) // 2 bits, 3 to 5 inodes, 6 to 22 blocks, 23 bits, 24 to 26 inodes, 27 to 43 blocks
	is := func(k int, inodes, blocks []byte) {
		t.Helper()
		if i, b := s.Bits(k); !bytes.Equal(i, inodes) || !bytes.Equal(b, blocks) {
			t.Errorf("Bits(%d): %v, %v, not %v, %v", k, i, b, inodes, blocks)
		}
	}
	left := func(inodes, blocks int) {
		t.Helper()
		if i, b := s.Left(); i != inodes || b != blocks {
			t.Errorf("Left: %d, %d, not %d, %d", i, b, inodes, blocks)
		}
	}
	is(0, []byte{0, 0}, []byte{0, 0, 0})
	is(1, []byte{0, 0}, []byte{0, 0, 0})
	left(24, 34)
	for _, n := range []int{1, 4, 12, 13, 21, 24} {
		s.Mark(n, 0)
	}
	for _, n := range []int{6, 13, 14, 22, 27, 36, 43} {
		s.Mark(0, n)
	}
	is(0, []byte{1 | 8, 8}, []byte{1 | 128, 1, 1})
	is(1, []byte{1, 1 | 8}, []byte{1, 2, 1})
	left(18, 27)
	s.Defer(4, 0)
	s.Defer(0, 43)
	is(0, []byte{1 | 8, 8}, []byte{1 | 128, 1, 1})
	is(1, []byte{1, 1 | 8}, []byte{1, 2, 1})
	left(18, 27)
	if n := s.Firm(); n != 2 {
		t.Errorf("Firm: %d", n)
	}
	is(0, []byte{1, 8}, []byte{1 | 128, 1, 1})
	is(1, []byte{1, 1 | 8}, []byte{1, 2, 0})
	left(19, 28)
}

// P16.2: Bits of no group: none.
func TestBitsOfNoGroup(t *testing.T) {
	for _, g := range some {
		p := newPair(t, g)
		for k := range g.Groups {
			p.spare(k, 1, 1)
		}
		for _, k := range append(far, g.Groups, g.Groups+1, 8, 9) {
			if i, b := p.s.Bits(k); i != nil || b != nil {
				t.Errorf("%v: Bits(%d): %v, %v", g, k, i, b)
			}
		}
		for k := range g.Groups {
			p.bits(k)
		}
	}
}

// P16.2: Bits: of a full group no bit from the number of its inodes, of its blocks on.
func TestBitsOfFullGroups(t *testing.T) {
	for inodes := 4; inodes <= 32; inodes += 4 {
		for blocks := 16; blocks <= 96; blocks += 5 {
			p := newPair(t, geo(2, inodes, blocks))
			p.spare(1, 0, 0)
			p.same()
		}
	}
}
