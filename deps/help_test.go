package deps_test

import (
	"math"
	"slices"
	"testing"

	"purlin/api"
	"purlin/deps"
)

// below are numbers that are no ids: all that is below 1.
var below = []int{0, -1, -2, -3, -7, -100, -1 << 31, -1 << 32, math.MinInt + 1, math.MinInt}

// above are ids that are far from each other, and from the small ones.
var above = []int{842, 2048, 1 << 16, math.MaxInt32, 1 << 32, 1<<32 + 1, 1 << 61, math.MaxInt - 1, math.MaxInt}

// byHand is a second reading of the chapter, by its words: ids in a list, and pairs of them, of which the first one needs the second.
type byHand struct {
	ids   []int // those that are there, in the order in which they were added
	pairs [][2]int
}

// has tells whether id is there.
func (m *byHand) has(id int) bool {
	return slices.Contains(m.ids, id)
}

// add tells what Add should tell, and does it.
func (m *byHand) add(id int) api.Errno {
	if id < 1 {
		return api.ErrArg
	}
	if m.has(id) {
		return api.ErrExist
	}
	m.ids = append(m.ids, id)
	return api.OK
}

// needs tells what Needs should tell, and does it.
func (m *byHand) needs(id, other int) api.Errno {
	if !m.has(id) || !m.has(other) {
		return api.ErrNone
	}
	if slices.Contains(m.closure(other), id) {
		return api.ErrLoop
	}
	if p := [2]int{id, other}; !slices.Contains(m.pairs, p) {
		m.pairs = append(m.pairs, p)
	}
	return api.OK
}

// drop tells what Drop should tell, and does it.
func (m *byHand) drop(ids ...int) int {
	n := len(m.ids)
	gone := func(id int) bool { return slices.Contains(ids, id) }
	m.ids = slices.DeleteFunc(m.ids, gone)
	m.pairs = slices.DeleteFunc(m.pairs, func(p [2]int) bool { return gone(p[0]) || gone(p[1]) })
	return n - len(m.ids)
}

// closure tells what Closure should tell: as long as one needs another that is not among them, that one comes beside them.
func (m *byHand) closure(ids ...int) []int {
	var all []int
	for _, id := range m.all() {
		if slices.Contains(ids, id) {
			all = append(all, id)
		}
	}
	for more := true; more; {
		more = false
		for _, p := range m.pairs {
			if slices.Contains(all, p[0]) && !slices.Contains(all, p[1]) {
				all = append(all, p[1])
				more = true
			}
		}
	}
	slices.Sort(all)
	return all
}

// levels tells what Levels should tell, turn by turn.
func (m *byHand) levels(ids ...int) [][]int {
	var lists [][]int
	var told []int
	left := m.closure(ids...)
	for len(left) > 0 {
		var list, later []int
		for _, id := range left {
			if m.waits(id, told) {
				later = append(later, id)
			} else {
				list = append(list, id)
			}
		}
		lists, left = append(lists, list), later
		told = append(told, list...)
	}
	return lists
}

// waits tells whether id needs one that is not among those told.
func (m *byHand) waits(id int, told []int) bool {
	return slices.ContainsFunc(m.pairs, func(p [2]int) bool { return p[0] == id && !slices.Contains(told, p[1]) })
}

// ready tells what Ready should tell.
func (m *byHand) ready() []int {
	return slices.DeleteFunc(m.all(), func(id int) bool { return m.waits(id, nil) })
}

// all tells what All should tell.
func (m *byHand) all() []int {
	return slices.Sorted(slices.Values(m.ids))
}

// copy tells the same, and goes its own way.
func (m *byHand) copy() *byHand {
	return &byHand{slices.Clone(m.ids), slices.Clone(m.pairs)}
}

// pair is a graph beside its second reading.
type pair struct {
	t *testing.T
	g *deps.Graph
	m *byHand
}

// newPair makes a graph in which nothing is, and its second reading.
func newPair(t *testing.T) pair {
	t.Helper()
	g := deps.New()
	if g == nil {
		t.Fatal("New told nil")
	}
	return pair{t, g, &byHand{}}
}

// built makes a graph of those ids, in which the first one of each pair needs the second.
func built(t *testing.T, ids []int, pairs ...[2]int) pair {
	t.Helper()
	p := newPair(t)
	for _, id := range ids {
		p.add(id, api.OK)
	}
	for _, x := range pairs {
		p.needs(x[0], x[1], api.OK)
	}
	return p
}

// upTo tells the numbers from 1 to n.
func upTo(n int) []int {
	var l []int
	for i := range n {
		l = append(l, i+1)
	}
	return l
}

// add asks that Add tells this.
func (p pair) add(id int, want api.Errno) {
	p.t.Helper()
	if got := p.m.add(id); got != want {
		p.t.Fatalf("Add(%d): by hand %d, not %d", id, got, want)
	}
	if got := p.g.Add(id); got != want {
		p.t.Fatalf("Add(%d): %d, not %d", id, got, want)
	}
}

// needs asks that Needs tells this.
func (p pair) needs(id, other int, want api.Errno) {
	p.t.Helper()
	if got := p.m.needs(id, other); got != want {
		p.t.Fatalf("Needs(%d, %d): by hand %d, not %d", id, other, got, want)
	}
	if got := p.g.Needs(id, other); got != want {
		p.t.Fatalf("Needs(%d, %d): %d, not %d", id, other, got, want)
	}
}

// drop asks that Drop tells this.
func (p pair) drop(want int, ids ...int) {
	p.t.Helper()
	if got := p.m.drop(ids...); got != want {
		p.t.Fatalf("Drop(%v): by hand %d, not %d", ids, got, want)
	}
	if got := p.g.Drop(ids...); got != want {
		p.t.Fatalf("Drop(%v): %d, not %d", ids, got, want)
	}
}

// levels asks that Levels tells these lists, and Closure what is in them.
func (p pair) levels(ids []int, want ...[]int) {
	p.t.Helper()
	if got := p.m.levels(ids...); !alike(got, want) {
		p.t.Fatalf("Levels(%v): by hand %v, not %v", ids, got, want)
	}
	p.told(ids)
}

// ready asks that Ready tells these.
func (p pair) ready(want ...int) {
	p.t.Helper()
	if got := p.g.Ready(); !slices.Equal(got, want) {
		p.t.Fatalf("Ready: %v, not %v", got, want)
	}
}

// all asks that All tells these.
func (p pair) all(want ...int) {
	p.t.Helper()
	if got := p.g.All(); !slices.Equal(got, want) {
		p.t.Fatalf("All: %v, not %v", got, want)
	}
}

// alike tells whether lists of lists are the same.
func alike(a, b [][]int) bool {
	return slices.EqualFunc(a, b, func(x, y []int) bool { return slices.Equal(x, y) })
}

// told asks that Closure and Levels of ids tell what they do by hand.
func (p pair) told(ids []int) {
	p.t.Helper()
	if got, want := p.g.Closure(ids...), p.m.closure(ids...); !slices.Equal(got, want) {
		p.t.Fatalf("Closure(%v): %v, not %v", ids, got, want)
	}
	if got, want := p.g.Levels(ids...), p.m.levels(ids...); !alike(got, want) {
		p.t.Fatalf("Levels(%v): %v, not %v", ids, got, want)
	}
}

// same asks that all that a graph tells without a change is what is told by hand.
func (p pair) same() {
	p.t.Helper()
	all := p.m.all()
	p.all(all...)
	p.ready(p.m.ready()...)
	for _, id := range all {
		p.told([]int{id})
	}
	p.told(all)
}

// unravel asks that graph and hand tell the same while one after another is dropped, so that each need is seen by itself, also one that another way leads round.
func (p pair) unravel(order []int) {
	p.t.Helper()
	for _, id := range order {
		p.drop(1, id)
		p.same()
	}
	p.all()
}

// orders tells those ids in all orders.
func orders(ids []int) [][]int {
	if len(ids) == 0 {
		return [][]int{nil}
	}
	var all [][]int
	for i, id := range ids {
		rest := slices.Delete(slices.Clone(ids), i, i+1)
		for _, o := range orders(rest) {
			all = append(all, append([]int{id}, o...))
		}
	}
	return all
}
