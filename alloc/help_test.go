package alloc_test

import (
	"bytes"
	"math"
	"testing"

	"purlin/alloc"
	"purlin/api"
	"purlin/group"
)

// geo makes a geometry.
func geo(groups, inodes, blocks int) api.Geometry {
	return api.Geometry{Groups: groups, Inodes: inodes, Blocks: blocks}
}

// some are geometries that may be, the smallest and the greatest among them, such as fill their last byte, and such as do not.
var some = []api.Geometry{
	geo(1, 4, 16), geo(1, 8, 17), geo(1, 32, 96), geo(2, 4, 16), geo(2, 12, 23), geo(3, 4, 17), geo(3, 16, 24), geo(3, 20, 41), geo(4, 28, 95), geo(5, 8, 33), geo(7, 24, 64), geo(8, 4, 16), geo(8, 32, 96),
}

// far are numbers that are no group, no inode and no block of any disk: also such as wrap round when something is taken from them, added, or multiplied.
var far = []int{
	math.MinInt, math.MinInt + 1, math.MinInt + 842, math.MinInt / 2, math.MinInt32, -1 << 16, -1000, -256, -9, -8, -2, -1,
	2048, 2049, 1 << 16, math.MaxInt32, 1 << 32, 1<<32 + 1, 1<<32 + 7, 1 << 61, 1<<61 + 1, math.MaxInt - 842, math.MaxInt - 1, math.MaxInt,
}

// What an inode, or a block, may be.
const (
	isFree = iota
	isTaken
	isDeferred
)

// thing is an inode, or a block.
type thing struct {
	number int // its number, or its sector
	is     int
}

// things are all of one kind, group by group.
type things [][]thing

// model is a second reading of the chapter, by its words: each inode and each block by itself, laid out by hand, and whole numbers for scores, which are as good as long as all groups have as many.
type model struct {
	g       api.Geometry
	inodes  things
	blocks  things
	sectors int
}

// newModel lays out a space of which nothing is taken.
func newModel(g api.Geometry) *model {
	m := &model{g: g, sectors: 2}
	number := 1
	for range g.Groups {
		var inodes, blocks []thing
		for range g.Inodes {
			inodes = append(inodes, thing{number: number})
			number++
		}
		m.sectors += 1 + g.Inodes/4
		for range g.Blocks {
			blocks = append(blocks, thing{number: m.sectors})
			m.sectors++
		}
		m.inodes, m.blocks = append(m.inodes, inodes), append(m.blocks, blocks)
	}
	return m
}

// free counts what is free in a group.
func free(l []thing) int {
	n := 0
	for _, x := range l {
		if x.is == isFree {
			n++
		}
	}
	return n
}

// free counts what is free in all groups.
func (l things) free() int {
	n := 0
	for _, in := range l {
		n += free(in)
	}
	return n
}

// best tells the first group of those that have the most that is free, and something, near counted twice.
func (l things) best(near int) int {
	best, most := -1, 0
	for k, in := range l {
		n := free(in)
		if k == near {
			n += n
		}
		if n > most {
			best, most = k, n
		}
	}
	return best
}

// take takes the first one of the best group.
func (l things) take(near int) (int, api.Errno) {
	k := l.best(near)
	if k < 0 {
		return 0, api.ErrSpace
	}
	for i := range l[k] {
		if l[k][i].is == isFree {
			l[k][i].is = isTaken
			return l[k][i].number, api.OK
		}
	}
	return 0, api.ErrSpace
}

// find tells the thing of that number; nil.
func (l things) find(number int) *thing {
	for k := range l {
		for i := range l[k] {
			if l[k][i].number == number {
				return &l[k][i]
			}
		}
	}
	return nil
}

// firm makes free what is deferred, and counts it.
func (l things) firm() int {
	n := 0
	for k := range l {
		for i := range l[k] {
			if l[k][i].is == isDeferred {
				l[k][i].is = isFree
				n++
			}
		}
	}
	return n
}

// bitsOf tells what of a group is not free, in as few bytes as it takes.
func bitsOf(l []thing) []byte {
	b := make([]byte, (len(l)+7)/8)
	for i, x := range l {
		if x.is != isFree {
			b[i/8] |= 1 << (i % 8)
		}
	}
	return b
}

// find tells the inode, or the block, that both numbers tell; nil, if that is none.
func (m *model) find(inode, block int) *thing {
	switch {
	case inode == 0 && block == 0:
		return nil
	case block == 0:
		return m.inodes.find(inode)
	case inode == 0:
		return m.blocks.find(block)
	}
	return nil
}

// mark tells what Mark should tell, and does it.
func (m *model) mark(inode, block int) api.Errno {
	x := m.find(inode, block)
	if x == nil {
		return api.ErrArg
	}
	if x.is != isFree {
		return api.ErrExist
	}
	x.is = isTaken
	return api.OK
}

// postpone tells what Defer should tell, and does it.
func (m *model) postpone(inode, block int) api.Errno {
	x := m.find(inode, block)
	if x == nil {
		return api.ErrArg
	}
	if x.is != isTaken {
		return api.ErrNone
	}
	x.is = isDeferred
	return api.OK
}

// pair is a space beside its model.
type pair struct {
	t *testing.T
	s *alloc.Space
	m *model
}

// newPair makes a space, and its model.
func newPair(t *testing.T, g api.Geometry) pair {
	t.Helper()
	s := alloc.New(g)
	if s == nil {
		t.Fatalf("New(%v) told nil", g)
	}
	return pair{t, s, newModel(g)}
}

// of tells the things of one kind.
func (p pair) of(inodes bool) things {
	if inodes {
		return p.m.inodes
	}
	return p.m.blocks
}

// group asks that Group tells what the model does.
func (p pair) group(near int, inodes bool) int {
	p.t.Helper()
	want := p.of(inodes).best(near)
	if got := p.s.Group(near, inodes); got != want {
		p.t.Fatalf("%v: Group(%d, %v): %d, not %d", p.m.g, near, inodes, got, want)
	}
	return want
}

// take asks that Inode, or Block, tells what the model does.
func (p pair) take(near int, inodes bool) (int, api.Errno) {
	p.t.Helper()
	call := p.s.Block
	if inodes {
		call = p.s.Inode
	}
	want, wantCode := p.of(inodes).take(near)
	if got, code := call(near); got != want || code != wantCode {
		p.t.Fatalf("%v: Inode or Block (%v) near %d: %d, %d, not %d, %d", p.m.g, inodes, near, got, code, want, wantCode)
	}
	return want, wantCode
}

// mark asks that Mark tells what the model does.
func (p pair) mark(inode, block int) api.Errno {
	p.t.Helper()
	want := p.m.mark(inode, block)
	if got := p.s.Mark(inode, block); got != want {
		p.t.Fatalf("%v: Mark(%d, %d): %d, not %d", p.m.g, inode, block, got, want)
	}
	return want
}

// postpone asks that Defer tells what the model does.
func (p pair) postpone(inode, block int) api.Errno {
	p.t.Helper()
	want := p.m.postpone(inode, block)
	if got := p.s.Defer(inode, block); got != want {
		p.t.Fatalf("%v: Defer(%d, %d): %d, not %d", p.m.g, inode, block, got, want)
	}
	return want
}

// firm asks that Firm tells what the model does.
func (p pair) firm() int {
	p.t.Helper()
	want := p.m.inodes.firm() + p.m.blocks.firm()
	if got := p.s.Firm(); got != want {
		p.t.Fatalf("%v: Firm: %d, not %d", p.m.g, got, want)
	}
	return want
}

// left asks that Left tells what the model does.
func (p pair) left() (int, int) {
	p.t.Helper()
	inodes, blocks := p.m.inodes.free(), p.m.blocks.free()
	if i, b := p.s.Left(); i != inodes || b != blocks {
		p.t.Fatalf("%v: Left: %d, %d, not %d, %d", p.m.g, i, b, inodes, blocks)
	}
	return inodes, blocks
}

// bits asks that Bits tells what the model does, and just as group.Read tells it.
func (p pair) bits(k int) {
	p.t.Helper()
	inodes, blocks := p.s.Bits(k)
	if k < 0 || k >= p.m.g.Groups {
		if inodes != nil || blocks != nil {
			p.t.Fatalf("%v: Bits(%d): %v, %v", p.m.g, k, inodes, blocks)
		}
		return
	}
	if want := bitsOf(p.m.inodes[k]); !bytes.Equal(inodes, want) {
		p.t.Fatalf("%v: Bits(%d): inodes %v, not %v", p.m.g, k, inodes, want)
	}
	if want := bitsOf(p.m.blocks[k]); !bytes.Equal(blocks, want) {
		p.t.Fatalf("%v: Bits(%d): blocks %v, not %v", p.m.g, k, blocks, want)
	}
	sector, code := group.Lay(inodes, blocks)
	if code != api.OK {
		p.t.Fatalf("%v: Bits(%d): group.Lay told %d", p.m.g, k, code)
	}
	i, b, code := group.Read(sector, p.m.g.Inodes, p.m.g.Blocks)
	if code != api.OK || !bytes.Equal(i, inodes) || !bytes.Equal(b, blocks) {
		p.t.Fatalf("%v: Bits(%d): group.Read told %v, %v, %d", p.m.g, k, i, b, code)
	}
}

// same asks that all that a space tells without a change is what the model tells.
func (p pair) same() {
	p.t.Helper()
	p.left()
	for k := -1; k <= p.m.g.Groups; k++ {
		p.bits(k)
		p.group(k, true)
		p.group(k, false)
	}
}

// spare takes all of a group but the last so many inodes and blocks.
func (p pair) spare(k, inodes, blocks int) {
	p.t.Helper()
	for _, x := range p.m.inodes[k][:p.m.g.Inodes-inodes] {
		p.mark(x.number, 0)
	}
	for _, x := range p.m.blocks[k][:p.m.g.Blocks-blocks] {
		p.mark(0, x.number)
	}
}
