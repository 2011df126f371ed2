package alloc_test

import (
	"math/rand"
	"testing"

	"purlin/api"
)

// run draws acts on a space, and holds each one, and all that can be asked behind it, against the model. Of a hundred acts so many take something; so the space fills, or empties.
type run struct {
	pair
	r     *rand.Rand
	takes int
}

// near draws a group, or none.
func (x run) near() int {
	if x.r.Intn(10) == 0 {
		return far[x.r.Intn(len(far))]
	}
	return x.r.Intn(x.m.g.Groups+2) - 1
}

// which draws an inode, or a block: mostly one that there is.
func (x run) which() (int, int) {
	n := x.r.Intn(x.m.g.Groups*x.m.g.Inodes+4) - 1
	s := x.r.Intn(x.m.sectors+4) - 1
	switch x.r.Intn(12) {
	case 0:
		return n, s
	case 1, 2, 3, 4:
		return n, 0
	case 5:
		return far[x.r.Intn(len(far))], 0
	case 6:
		return 0, far[x.r.Intn(len(far))]
	}
	return 0, s
}

// act does one thing.
func (x run) act() {
	x.t.Helper()
	if x.r.Intn(100) < x.takes {
		switch x.r.Intn(6) {
		case 0:
			x.mark(x.which())
		case 1, 2:
			x.take(x.near(), true)
		default:
			x.take(x.near(), false)
		}
		return
	}
	if x.r.Intn(15) == 0 {
		x.firm()
		return
	}
	x.postpone(x.which())
}

// P16.1, P16.2: long rows of acts, in spaces that fill and in such as empty.
func TestRuns(t *testing.T) {
	for i, g := range some {
		for _, takes := range []int{20, 50, 80, 97} {
			x := run{newPair(t, g), rand.New(rand.NewSource(int64(100*i + takes))), takes}
			for range 600 {
				x.act()
				x.left()
				x.group(x.near(), true)
				x.group(x.near(), false)
				x.bits(x.near())
			}
			x.same()
		}
	}
}

// P16.1, P16.2: a space is filled till nothing is free, emptied again, and filled anew, several times.
func TestFillAndEmpty(t *testing.T) {
	for i, g := range some {
		x := run{newPair(t, g), rand.New(rand.NewSource(int64(i))), 0}
		for range 3 {
			for inodes, blocks := x.left(); inodes+blocks > 0; inodes, blocks = x.left() {
				x.take(x.near(), x.r.Intn(4) == 0)
				if x.r.Intn(3) == 0 {
					x.mark(x.which())
				}
			}
			x.same()
			for _, inodes := range []bool{true, false} {
				if _, code := x.take(x.near(), inodes); code != api.ErrSpace {
					t.Fatalf("%v: nothing is free, and %d is told", g, code)
				}
			}
			for range 2 * x.m.sectors {
				x.postpone(x.which())
				if x.r.Intn(200) == 0 {
					x.firm()
				}
			}
			x.firm()
			x.same()
		}
	}
}

// P16.1, P16.2: geometries that are drawn, with rows of acts that are drawn.
func TestDrawnGeometries(t *testing.T) {
	r := rand.New(rand.NewSource(16))
	for range 200 {
		g := geo(1+r.Intn(8), 4+4*r.Intn(8), 16+r.Intn(81))
		x := run{newPair(t, g), r, 40 + r.Intn(60)}
		for range 200 {
			x.act()
		}
		x.same()
	}
}
