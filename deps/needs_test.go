package deps_test

import (
	"math"
	"slices"
	"testing"

	"purlin/api"
)

// P17.1, P17.2: the example of the chapter.
func TestExample(t *testing.T) {
	p := built(t, []int{1, 2})
	p.needs(1, 2, api.OK)
	p.levels([]int{1}, []int{2}, []int{1})
	p.same()
}

// P17.1: New: nothing is there.
func TestNew(t *testing.T) {
	p := newPair(t)
	p.all()
	p.ready()
	p.levels(nil)
	p.levels([]int{1, 0, -1})
	p.drop(0)
	p.drop(0, 1, 2)
	p.needs(1, 2, api.ErrNone)
	p.same()
}

// P17.1: Add: ErrArg below 1, whatever is there; nothing is there of it.
func TestAddBelow(t *testing.T) {
	p := newPair(t)
	for range 2 {
		for _, id := range below {
			p.add(id, api.ErrArg)
			p.add(id, api.ErrArg)
			p.needs(id, 1, api.ErrNone)
			p.needs(1, id, api.ErrNone)
			p.needs(id, id, api.ErrNone)
			p.drop(0, id)
			p.told([]int{id})
		}
		p.same()
		p.add(1, p.m.copy().add(1))
	}
	p.all(1)
	p.ready(1)
}

// P17.1: Add: of 1, of small ones and of such as are far above; each is there once, and needs nothing.
func TestAdd(t *testing.T) {
	p := newPair(t)
	var ids []int
	for _, id := range append([]int{1, 2, 3, 40}, above...) {
		p.add(id, api.OK)
		ids = append(ids, id)
		p.all(ids...)
		p.ready(ids...)
		for range 2 {
			p.add(id, api.ErrExist)
		}
		p.all(ids...)
		p.levels([]int{id}, []int{id})
	}
	p.levels(ids, ids)
	for i, id := range ids[1:] {
		p.needs(ids[i], id, api.OK)
	}
	p.needs(math.MaxInt, 1, api.ErrLoop)
	p.same()
}

// P17.1: Add of what is there, needs, and is needed: ErrExist, and it needs, and is needed, as before.
func TestAddAgain(t *testing.T) {
	p := built(t, upTo(3), [2]int{1, 2}, [2]int{2, 3})
	for range 2 {
		for _, id := range upTo(3) {
			p.add(id, api.ErrExist)
		}
		p.levels([]int{1}, []int{3}, []int{2}, []int{1})
		p.ready(3)
		p.needs(3, 1, api.ErrLoop)
	}
	p.same()
}

// P17.1: Add of what was dropped: it needs nothing then, and nobody needs it.
func TestAddAnew(t *testing.T) {
	p := built(t, upTo(3), [2]int{1, 2}, [2]int{2, 3})
	p.drop(1, 2)
	p.levels([]int{1}, []int{1})
	p.add(2, api.OK)
	p.ready(1, 2, 3)
	p.levels([]int{1}, []int{1})
	p.levels([]int{2}, []int{2})
	p.same()
	p.add(2, api.ErrExist)

	// It may be needed the other way about.
	p.needs(3, 2, api.OK)
	p.needs(2, 1, api.OK)
	p.levels([]int{3}, []int{1}, []int{2}, []int{3})
	p.needs(1, 2, api.ErrLoop)
	p.needs(1, 3, api.ErrLoop)
	p.same()
}

// P17.1: Needs: ErrNone, if the first one is not there, the other one is not, or neither is, as it never was or as it was dropped; nothing is changed.
func TestNeedsOfNone(t *testing.T) {
	p := built(t, []int{1, 2, 5}, [2]int{1, 2}, [2]int{2, 5})
	p.drop(1, 5)
	strangers := append(append([]int{3, 4, 5, 6}, below...), above...)
	for _, id := range strangers {
		p.needs(id, 1, api.ErrNone)
		p.needs(1, id, api.ErrNone)
		p.needs(id, 2, api.ErrNone)
		p.needs(2, id, api.ErrNone)
		for _, other := range strangers {
			p.needs(id, other, api.ErrNone)
		}
		p.all(1, 2)
		p.ready(2)
		p.same()
	}
	// What was asked of one that was not there is not there when it is added.
	for _, id := range strangers {
		if id > 0 {
			p.add(id, api.OK)
		}
	}
	for _, id := range p.m.all() {
		if id != 1 {
			p.levels([]int{id}, []int{id})
		}
	}
	p.levels([]int{1}, []int{2}, []int{1})
}

// P17.1, R6: Needs of one by itself: ErrLoop, if it is there; ErrNone, which the chapter names ahead of it, if it is not.
func TestNeedsOfItself(t *testing.T) {
	p := built(t, upTo(4), [2]int{1, 2}, [2]int{2, 3})
	p.drop(1, 4)
	for range 2 {
		for _, id := range upTo(3) {
			p.needs(id, id, api.ErrLoop)
		}
		for _, id := range append([]int{4, 0, -1, math.MinInt}, above...) {
			p.needs(id, id, api.ErrNone)
		}
		p.same()
	}
	p.add(4, api.OK)
	p.needs(4, 4, api.ErrLoop)
	p.levels([]int{4}, []int{4})
}

// P17.1: Needs: ErrLoop, if the other one needs the first, by itself, over one, over two, and over many.
func TestLoop(t *testing.T) {
	for n := 2; n <= 40; n++ {
		p := built(t, upTo(n))
		for id := n - 1; id > 0; id-- {
			p.needs(id, id+1, api.OK)
		}
		for other := range n {
			for id := other + 1; id <= n; id++ {
				p.needs(id, other+1, api.ErrLoop)
			}
		}
		p.ready(n)
		p.same()
	}
}

// P17.1, R5: what Needs refused is not kept: once the way is gone by which it was refused, nothing is left of it, and it may be asked again.
func TestLoopIsNotKept(t *testing.T) {
	p := built(t, upTo(4), [2]int{1, 2}, [2]int{2, 3}, [2]int{3, 4})
	for range 3 {
		p.needs(4, 1, api.ErrLoop)
		p.needs(3, 1, api.ErrLoop)
		p.needs(4, 2, api.ErrLoop)
	}
	p.same()
	p.drop(1, 2)
	p.ready(1, 4)
	p.levels([]int{1}, []int{1})
	p.levels([]int{3}, []int{4}, []int{3})
	p.needs(4, 1, api.OK)
	p.needs(1, 3, api.ErrLoop)
	p.needs(1, 4, api.ErrLoop)
	p.levels([]int{3}, []int{1}, []int{4}, []int{3})
	p.drop(1, 4)
	p.needs(1, 3, api.OK)
	p.same()
}

// P17.1: Needs: ErrLoop over two ways, as long as one of them is there.
func TestLoopOverTwoWays(t *testing.T) {
	// 1 needs 6 over 2, and over 3, 4 and 5.
	pairs := [][2]int{{1, 2}, {2, 6}, {1, 3}, {3, 4}, {4, 5}, {5, 6}}
	for _, gone := range [][]int{{}, {2}, {3}, {4}, {5}, {3, 5}} {
		p := built(t, upTo(6), pairs...)
		p.drop(len(gone), gone...)
		p.needs(6, 1, api.ErrLoop)
		p.same()
	}
	for _, gone := range [][]int{{2, 3}, {2, 4}, {5, 2}, {2, 3, 4, 5}} {
		p := built(t, upTo(6), pairs...)
		p.drop(len(gone), gone...)
		p.needs(6, 1, api.OK)
		p.needs(1, 6, api.ErrLoop)
		p.same()
	}
	// The same two ways, the later one of which leads nowhere else.
	p := built(t, upTo(6), pairs...)
	p.needs(2, 5, api.OK)
	p.needs(4, 2, api.OK)
	p.needs(5, 4, api.ErrLoop)
	p.needs(5, 2, api.ErrLoop)
	p.needs(6, 3, api.ErrLoop)
	p.levels([]int{1}, []int{6}, []int{5}, []int{2}, []int{4}, []int{3}, []int{1})
	p.same()
}

// P17.1: Needs: whatever needs the same, and whatever the same one needs, may need each other, one way or the other.
func TestNoLoop(t *testing.T) {
	p := built(t, upTo(8), [2]int{1, 3}, [2]int{2, 3}, [2]int{3, 4}, [2]int{3, 5}, [2]int{6, 7})
	p.needs(1, 2, api.OK)
	p.needs(5, 4, api.OK)
	p.needs(1, 4, api.OK) // a way round 3
	p.needs(4, 6, api.OK)
	p.needs(8, 1, api.OK)
	p.needs(7, 8, api.ErrLoop)
	p.needs(2, 1, api.ErrLoop)
	p.needs(4, 5, api.ErrLoop)
	p.levels([]int{8}, []int{7}, []int{6}, []int{4}, []int{5}, []int{3}, []int{2}, []int{1}, []int{8})
	p.same()
}

// P17.1: Needs again: nothing happens; one Drop ends it.
func TestNeedsAgain(t *testing.T) {
	for _, gone := range []int{1, 2, 3} {
		p := built(t, upTo(3))
		for range 4 {
			p.needs(1, 2, api.OK)
			p.needs(1, 3, api.OK)
			p.needs(2, 3, api.OK)
			p.levels([]int{1}, []int{3}, []int{2}, []int{1})
			p.ready(3)
			p.same()
		}
		p.drop(1, gone)
		p.same()
		p.add(gone, api.OK)
		p.levels([]int{gone}, []int{gone})
		p.same()
	}
}

// P17.1: Drop: of none, of one, of several, of such as are not there, of the same one twice: how many there were.
func TestDrop(t *testing.T) {
	p := built(t, upTo(9), [2]int{1, 2}, [2]int{3, 4}, [2]int{4, 5})
	p.drop(0)
	p.drop(0, nil...)
	p.drop(0, below...)
	p.drop(0, above...)
	p.drop(0, 10, 11, 0)
	p.all(upTo(9)...)
	p.same()
	p.drop(1, 9)
	p.drop(0, 9)
	p.drop(0, 9, 9, 9)
	p.drop(1, 8, 8, 8)
	p.drop(2, 7, 9, 6, 7, 10, 8, 6)
	p.all(upTo(5)...)
	p.same()
	p.drop(2, 4, 1, 4, 1)
	p.all(2, 3, 5)
	p.ready(2, 3, 5)
	p.drop(3, 5, 2, 3)
	p.drop(0, 5, 2, 3)
	p.all()
	p.same()
}

// P17.1: Drop of one that others need, and that needs others: none of them needs another one over it any more, and what needed it alone is ready.
func TestDropInTheMidst(t *testing.T) {
	p := built(t, upTo(7), [2]int{1, 4}, [2]int{2, 4}, [2]int{3, 4}, [2]int{4, 5}, [2]int{4, 6}, [2]int{2, 6}, [2]int{7, 1})
	p.ready(5, 6)
	p.drop(1, 4)
	p.ready(1, 3, 5, 6)
	p.levels([]int{7}, []int{1}, []int{7})
	p.levels([]int{2}, []int{6}, []int{2})
	p.same()
	p.needs(5, 1, api.OK) // over 4 it would have been a loop
	p.needs(6, 2, api.ErrLoop)
	p.same()
}

// P17.1: Drop of what needs something: that one is needed no more by it, so that it may need it.
func TestDropOfWhatNeeds(t *testing.T) {
	p := built(t, upTo(4), [2]int{1, 2}, [2]int{1, 3}, [2]int{4, 3})
	p.drop(1, 1)
	p.ready(2, 3)
	p.levels([]int{2, 3}, []int{2, 3})
	p.add(1, api.OK)
	p.needs(2, 1, api.OK)
	p.needs(3, 1, api.OK)
	p.needs(1, 4, api.ErrLoop)
	p.ready(1)
	p.levels([]int{2, 4}, []int{1}, []int{2, 3}, []int{4})
	p.same()
}

// P17.1: Drop, Add and Needs of one again and again: what it needs and what needs it is that which was asked since, whichever end a loop is looked for from.
func TestNeededAnew(t *testing.T) {
	p := built(t, upTo(20), [2]int{1, 2})
	for id := 4; id <= 20; id++ { // much hangs on the one end
		p.needs(3, id, api.OK)
	}
	for range 3 {
		p.drop(1, 1)
		p.levels([]int{2}, []int{2})
		p.add(1, api.OK)
		p.needs(1, 2, api.OK)
		p.needs(3, 1, api.OK)
		p.needs(2, 3, api.ErrLoop)
		p.needs(2, 1, api.ErrLoop)
		p.levels([]int{1}, []int{2}, []int{1})
		p.same()
	}
	for id := 4; id <= 20; id++ { // and then on the other
		p.drop(1, id)
		p.add(id, api.OK)
		p.needs(id, 2, api.OK)
	}
	p.needs(2, 3, api.ErrLoop)
	p.levels([]int{3}, []int{2}, []int{1}, []int{3})
	p.drop(1, 1)
	p.needs(2, 3, api.OK)
	p.needs(3, 20, api.ErrLoop)
	p.same()
}

// P17.1: Drop in all orders, one by one and all in one call, of a graph with ways of unlike length.
func TestDropInAllOrders(t *testing.T) {
	pairs := [][2]int{{1, 2}, {2, 3}, {1, 3}, {3, 4}, {1, 4}, {5, 4}, {5, 2}}
	for _, order := range orders(upTo(5)) {
		p := built(t, upTo(5), pairs...)
		p.same()
		p.unravel(order)
		for many := range order {
			p := built(t, upTo(5), pairs...)
			p.drop(many, order[:many]...)
			p.same()
			p.drop(5-many, order...)
			p.all()
			p.ready()
		}
	}
}

// P17.1: each need among few, asked in all orders: what is refused and what is not.
func TestEachRowOfNeeds(t *testing.T) {
	pairs := [][2]int{{1, 2}, {2, 3}, {3, 1}, {2, 1}, {1, 3}, {3, 2}}
	for _, order := range orders([]int{0, 1, 2, 3, 4, 5}) {
		p := built(t, upTo(3))
		for _, i := range order {
			id, other := pairs[i][0], pairs[i][1]
			p.needs(id, other, p.m.copy().needs(id, other))
		}
		// Whatever was asked first, three can only stand in one row.
		lists := p.g.Levels(upTo(3)...)
		if len(lists) != 3 {
			t.Fatalf("%v: %v", order, lists)
		}
		p.same()
		p.unravel(slices.Concat(lists[1], lists[0], lists[2]))
	}
}
