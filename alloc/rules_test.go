package alloc_test

import (
	"bytes"
	"sync"
	"testing"

	"purlin/alloc"
	"purlin/api"
)

// R3: every method of a nil space tells ErrNil, ahead of all else, or zero values.
func TestNil(t *testing.T) {
	var s *alloc.Space
	for _, near := range append(far, 0, 1, 7) {
		if i, b := s.Group(near, true), s.Group(near, false); i != 0 || b != 0 {
			t.Errorf("Group(%d): %d, %d", near, i, b)
		}
		if n, code := s.Inode(near); n != 0 || code != api.ErrNil {
			t.Errorf("Inode(%d): %d, %d", near, n, code)
		}
		if n, code := s.Block(near); n != 0 || code != api.ErrNil {
			t.Errorf("Block(%d): %d, %d", near, n, code)
		}
		if i, b := s.Bits(near); i != nil || b != nil {
			t.Errorf("Bits(%d): %v, %v", near, i, b)
		}
	}
	for _, x := range append(none(geo(2, 8, 20)), [2]int{1, 0}, [2]int{0, 5}) {
		if code := s.Mark(x[0], x[1]); code != api.ErrNil {
			t.Errorf("Mark(%d, %d): %d", x[0], x[1], code)
		}
		if code := s.Defer(x[0], x[1]); code != api.ErrNil {
			t.Errorf("Defer(%d, %d): %d", x[0], x[1], code)
		}
	}
	if n := s.Firm(); n != 0 {
		t.Errorf("Firm: %d", n)
	}
	if i, b := s.Left(); i != 0 || b != 0 {
		t.Errorf("Left: %d, %d", i, b)
	}
	if alloc.New(api.Geometry{}) != nil {
		t.Error("New of none is no nil space")
	}
}

// R1: a space that no call made does not panic either.
func TestZero(t *testing.T) {
	var s alloc.Space
	for _, near := range append(far, 0, 1) {
		s.Group(near, true)
		s.Group(near, false)
		s.Inode(near)
		s.Block(near)
		s.Mark(near, 0)
		s.Mark(0, near)
		s.Defer(near, 0)
		s.Defer(0, near)
		s.Bits(near)
	}
	s.Firm()
	s.Left()
}

// scribble writes all over bytes, over their spare room too.
func scribble(b []byte) {
	b = b[:cap(b)]
	for i := range b {
		b[i] ^= 0xFF
	}
}

// R4: what Bits answers shares no memory with the space, nor with another answer, nor its two lists with each other; what is done behind it does not reach it.
func TestBitsShareNothing(t *testing.T) {
	for _, g := range some {
		p := newPair(t, g)
		p.spare(0, 2, 3)
		p.postpone(1, 0)
		k := g.Groups - 1
		for range 3 {
			inodes, blocks := p.s.Bits(0)
			keptInodes, keptBlocks := bytes.Clone(inodes), bytes.Clone(blocks)
			i, b := p.s.Bits(0)
			scribble(i)
			if !bytes.Equal(b, keptBlocks) {
				t.Fatalf("%v: the two lists share memory", g)
			}
			scribble(b)
			if !bytes.Equal(inodes, keptInodes) || !bytes.Equal(blocks, keptBlocks) {
				t.Fatalf("%v: two answers share memory", g)
			}
			p.same()
			i, b = p.s.Bits(k)
			_, _ = append(i, 0xFF), append(b, 0xFF)
			p.same()
			// All that may change what is taken.
			p.take(0, true)
			p.take(0, false)
			p.mark(1, 0)
			p.mark(0, p.m.blocks[0][g.Blocks-1].number)
			p.postpone(2, 0)
			p.postpone(0, p.m.blocks[0][1].number)
			p.firm()
			if !bytes.Equal(inodes, keptInodes) || !bytes.Equal(blocks, keptBlocks) {
				t.Fatalf("%v: an answer is changed by what is done behind it", g)
			}
			p.same()
		}
	}
}

// R5: spaces hang on their own calls alone, also those of one geometry.
func TestApart(t *testing.T) {
	g := geo(2, 8, 20)
	a, b, c := newPair(t, g), newPair(t, g), newPair(t, geo(8, 32, 96))
	if a.s == b.s {
		t.Fatal("New told one space twice")
	}
	a.mark(1, 0)
	b.mark(0, 5)
	b.take(1, true)
	c.take(7, false)
	a.postpone(1, 0)
	b.mark(1, 0)
	b.postpone(1, 0)
	a.firm()
	if b.s.Mark(1, 0) != api.ErrExist {
		t.Error("the Firm of one space reached another one")
	}
	for _, p := range []pair{a, b, c} {
		p.same()
	}
}

// R5: what is asked and told changes nothing: a space beside one of which much is asked does the same.
func TestAskingChangesNothing(t *testing.T) {
	g := geo(3, 8, 20)
	asked, quiet := newPair(t, g), newPair(t, g)
	for i := range 70 {
		asked.same()
		for _, x := range none(g) {
			asked.mark(x[0], x[1])
			asked.postpone(x[0], x[1])
		}
		n, code := asked.take(i%4, i%2 == 0)
		m, again := quiet.take(i%4, i%2 == 0)
		if n != m || code != again {
			t.Fatalf("%d, %d, not %d, %d", n, code, m, again)
		}
	}
}

// R5: spaces of several goroutines.
func TestSideBySide(t *testing.T) {
	g := geo(8, 32, 96)
	var all sync.WaitGroup
	told := make([][]int, 8)
	for i := range told {
		all.Go(func() {
			s := alloc.New(g)
			for range g.Groups * g.Inodes {
				n, _ := s.Inode(3)
				b, _ := s.Block(5)
				told[i] = append(told[i], n, b)
			}
		})
	}
	all.Wait()
	for i := range told {
		for k := range told[0] {
			if told[i][k] != told[0][k] {
				t.Fatalf("goroutine %d, %d: %d, not %d", i, k, told[i][k], told[0][k])
			}
		}
	}
}
