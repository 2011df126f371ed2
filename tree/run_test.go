package tree_test

import (
	"math"
	"slices"
	"strings"
	"testing"

	"purlin/api"
	"purlin/tree"
)

// draw draws numbers, the same ones in each run.
type draw struct{ state uint32 }

// below draws one from 0 to n less 1.
func (d *draw) below(n int) int {
	d.state = d.state*1664525 + 1013904223
	return int(uint64(d.state) * uint64(n) >> 32)
}

// one draws one of several.
func one[T any](d *draw, of ...T) T {
	return of[d.below(len(of))]
}

// run is a long one of drawn operations, done to a tree and by hand.
type run struct {
	draw
	t     *testing.T
	tree  *tree.Tree
	hand  *byHand
	names []string       // of which paths are made
	told  map[[2]int]int // how often a Kind told a code
}

// wrong are paths that may not be, or end in what is no name.
var wrong = []string{"", "a", "/", "/..", "/a/..", "/.", "//", "/a\x00b", "/" + strings.Repeat("x", 25), strings.Repeat("/a", 21), "/" + strings.Repeat("/", 200), "./a", "../a"}

// path draws a path, often one of which there is something already, or that goes through it.
func (r *run) path() string {
	if r.below(25) == 0 {
		return one(&r.draw, wrong...)
	}
	p := ""
	if r.below(4) > 0 {
		ns := r.hand.nodes()
		p = strings.TrimSuffix(one(&r.draw, ns...).Path, "/")
	}
	for range r.below(3) {
		p += one(&r.draw, "/", "/", "/", "/", "//", "/./") + one(&r.draw, r.names...)
		if r.below(12) == 0 {
			p += "/.."
		}
	}
	return one(&r.draw, p, p, p, p, p, p+"/", "/"+p)
}

// target draws what a link tells.
func (r *run) target() string {
	switch r.below(8) {
	case 0:
		return one(&r.draw, "", ".", "..", "/", "../..", "a\x00", strings.Repeat("a", 25), strings.Repeat("a/", 50), strings.Repeat("a/", 20), strings.Repeat("/.", 51))
	case 1:
		return "../" + one(&r.draw, r.names...)
	case 2, 3:
		return one(&r.draw, r.names...)
	}
	return r.path()
}

// data draws up to some blocks of bytes.
func (r *run) data() []byte {
	data := make([]byte, one(&r.draw, 0, 1, 2, 5, 100, 127, 128, 129, 200, 256, 300, 700))
	for i := range data {
		data[i] = byte(1 + r.below(255))
	}
	return data
}

// place draws a place in a file.
func (r *run) place() int {
	return one(&r.draw, 0, 0, 1, 5, 127, 128, 129, 300, 767, 768, 769, 2303, 2304, 2305, 4000, 10000, 20608, 20735, 20736, 20737,
		-1, 1<<40, 1<<40+1, math.MaxInt, math.MinInt, r.below(3000), r.below(20800), -r.below(200))
}

// fd draws a descriptor.
func (r *run) fd() int {
	if r.below(30) == 0 {
		return one(&r.draw, -1, 16, 17, math.MaxInt, math.MinInt)
	}
	return min(r.below(16), r.below(16))
}

// flags draws those of Open.
func (r *run) flags() int {
	return one(&r.draw, 0, 1, 32, 33, 33, 35, 37, 40, 41, 36, 16, 49, 3, 2, 4, 8, 5, -1, 64, 65, 63, math.MinInt, math.MaxInt, r.below(64))
}

// op draws an operation.
func (r *run) op() api.Op {
	o := api.Op{Kind: 1 + r.below(23), FD: r.fd(), Path: r.path(), To: r.path(), Off: r.place(), Flags: r.flags()}
	switch o.Kind {
	case api.OpOpen:
	case api.OpClose:
		if r.below(2) == 0 {
			o.Kind = api.OpOpen
		}
	case api.OpWrite, api.OpPwrite:
		o.Data = r.data()
	case api.OpSymlink:
		o.Path = r.target()
	case api.OpSeek:
		o.N = one(&r.draw, 0, 1, 2, 0, 1, 2, -1, 3, math.MinInt, math.MaxInt)
	case api.OpRead, api.OpPread:
		o.N = one(&r.draw, 0, 1, 10, 128, 1000, 30000, math.MaxInt, -1, math.MinInt)
	case api.OpTick, api.OpDrop:
		o.N = one(&r.draw, 0, 1, -1, math.MinInt, math.MaxInt)
	case api.OpRmdir, api.OpUnlink:
		// So that the tree grows.
		if r.below(2) == 0 {
			o.Kind = api.OpMkdir
		}
	case api.OpSync:
		o.Kind = one(&r.draw, 0, -1, 21, 24, 25, math.MinInt, math.MaxInt, api.OpRename, api.OpRename)
	}
	return o
}

// step does one operation, and asks that the tree tells what the hand tells.
func (r *run) step(o api.Op) {
	r.t.Helper()
	got, want := r.tree.Do(o), r.hand.do(o)
	if !alike(got, want) {
		r.t.Fatalf("%+v: %+v, not %+v", o, got, want)
	}
	r.told[[2]int{o.Kind, int(want.Code)}]++
}

// agree asks that all that the tree tells of itself is what the hand tells.
func (r *run) agree() {
	r.t.Helper()
	blocks, inodes := r.tree.Need()
	if wantBlocks, wantInodes := r.hand.need(); blocks != wantBlocks || inodes != wantInodes {
		r.t.Fatalf("Need: %d, %d, not %d, %d", blocks, inodes, wantBlocks, wantInodes)
	}
	if got, want := r.tree.Nodes(), r.hand.nodes(); !alikeNodes(got, want) {
		r.t.Fatalf("Nodes: %+v, not %+v", got, want)
	}
	p := r.path()
	want := 0
	if at, code := r.hand.find(p, true); code == api.OK {
		want = r.hand.names[at]
	}
	if got := r.tree.Number(p); got != want {
		r.t.Fatalf("Number(%q): %d, not %d", p, got, want)
	}
}

// shapes are what runs begin with.
var shapes = []struct {
	names []string
	begin []string // directories
}{
	{names: []string{"a", "b", "c"}},
	{names: []string{"a", "b", "..", "d", "e", "."}},
	{names: []string{"a", "a.", "a-", "A", "ab", "..", "é"}},
	// The paths of what stands deepest have nearly as many bytes as may be.
	{names: []string{long('a', 24), long('b', 24), long('c', 23), long('d', 12), "e", ".."}, begin: deep(long('a', 24), 7)},
	// Nearly as many parts.
	{names: []string{"a", "b", "..", "c"}, begin: deep("a", 18)},
}

// long is a name of many letters.
func long(letter byte, many int) string {
	return strings.Repeat(string(rune(letter)), many)
}

// deep tells directories that lie in one another.
func deep(name string, many int) []string {
	var ps []string
	for k := range many {
		ps = append(ps, strings.Repeat("/"+name, k+1))
	}
	return ps
}

// P14.1, P14.2, P14.3: long runs of all kinds, by the words of the chapter.
func TestRuns(t *testing.T) {
	told := map[[2]int]int{}
	for k, shape := range shapes {
		for seed := range 12 {
			r := &run{draw: draw{uint32(100*k + seed)}, t: t, tree: tree.New(), hand: newByHand(), names: shape.names, told: told}
			for _, p := range shape.begin {
				r.step(api.Op{Kind: api.OpMkdir, Path: p})
			}
			for range seed % 3 * 6 {
				r.step(api.Op{Kind: api.OpOpen, Path: "/f", Flags: 33})
			}
			for i := range 700 {
				r.step(r.op())
				if i%5 == 0 {
					r.agree()
				}
				if i%100 == 50 && seed%2 == 0 {
					// From now on by a copy.
					r.tree = r.tree.Copy()
				}
			}
			r.agree()
		}
	}
	asked(t, told)
}

// asked asks that the runs came to each code that a Kind may tell, so that they are worth something.
func asked(t *testing.T, told map[[2]int]int) {
	t.Helper()
	place := []api.Errno{api.ErrArg, api.ErrLong, api.ErrNone, api.ErrNotDir, api.ErrLoop}
	for kind, codes := range map[int][]api.Errno{
		api.OpOpen:     append([]api.Errno{api.ErrExist, api.ErrIsDir, api.ErrFiles}, place...),
		api.OpClose:    {api.ErrBad},
		api.OpRead:     {api.ErrBad, api.ErrIsDir, api.ErrArg},
		api.OpWrite:    {api.ErrBad, api.ErrBig},
		api.OpPread:    {api.ErrBad, api.ErrIsDir, api.ErrArg},
		api.OpPwrite:   {api.ErrBad, api.ErrArg, api.ErrBig},
		api.OpSeek:     {api.ErrBad, api.ErrIsDir, api.ErrArg},
		api.OpTrunc:    {api.ErrBad, api.ErrArg, api.ErrBig},
		api.OpMkdir:    append([]api.Errno{api.ErrExist}, place...),
		api.OpRmdir:    append([]api.Errno{api.ErrNotEmpty}, place...),
		api.OpUnlink:   append([]api.Errno{api.ErrIsDir}, place...),
		api.OpLink:     append([]api.Errno{api.ErrPerm, api.ErrExist}, place...),
		api.OpSymlink:  append([]api.Errno{api.ErrExist}, place...),
		api.OpReadlink: place,
		api.OpRename:   append([]api.Errno{api.ErrNotEmpty, api.ErrIsDir}, place...),
		api.OpStat:     place,
		api.OpLstat:    place,
		api.OpReaddir:  place,
		api.OpFsync:    {api.ErrBad}, api.OpFdatasync: {api.ErrBad},
		api.OpSync: nil, api.OpTick: {api.ErrArg}, api.OpDrop: {api.ErrArg},
	} {
		for _, code := range slices.Concat([]api.Errno{api.OK}, codes) {
			if told[[2]int{kind, int(code)}] == 0 {
				t.Errorf("no %d told %d", kind, code)
			}
		}
	}
}
