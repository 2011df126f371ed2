package deps_test

import (
	"math/rand"
	"slices"
	"testing"

	"purlin/api"
	"purlin/deps"
)

// run draws calls on a graph, and holds each one against what is told by hand.
type run struct {
	pair
	r    *rand.Rand
	most int // ids are drawn up to it
	// Of a hundred calls so many are Add, so many Drop; the rest are Needs.
	adds, drops int
}

// id draws one that is there, or, now and then, any.
func (x run) id() int {
	if len(x.m.ids) > 0 && x.r.Intn(8) > 0 {
		return x.m.ids[x.r.Intn(len(x.m.ids))]
	}
	return x.r.Intn(x.most+4) - 2
}

// ids draws some, one of them twice now and then.
func (x run) ids() []int {
	var l []int
	for range x.r.Intn(5) {
		l = append(l, x.id())
	}
	if len(l) > 0 && x.r.Intn(3) == 0 {
		l = append(l, l[0])
	}
	return l
}

// act does one thing.
func (x run) act() {
	x.t.Helper()
	switch n := x.r.Intn(100); {
	case n < x.adds:
		id := x.r.Intn(x.most+4) - 2
		x.add(id, x.m.copy().add(id))
	case n < x.adds+x.drops:
		ids := x.ids()
		x.drop(x.m.copy().drop(ids...), ids...)
	default:
		id, other := x.id(), x.id()
		x.needs(id, other, x.m.copy().needs(id, other))
	}
}

// P17.1, P17.2: long rows of calls, in graphs of few and of many, with few needs and with many.
func TestRuns(t *testing.T) {
	for seed, x := range []run{
		{most: 4, adds: 30, drops: 20}, {most: 5, adds: 15, drops: 3}, {most: 8, adds: 20, drops: 8}, {most: 8, adds: 10, drops: 1},
		{most: 12, adds: 25, drops: 5}, {most: 12, adds: 40, drops: 30}, {most: 20, adds: 20, drops: 3}, {most: 20, adds: 10, drops: 1}, {most: 30, adds: 30, drops: 1},
	} {
		x.pair, x.r = newPair(t), rand.New(rand.NewSource(int64(seed)))
		for range 500 {
			x.act()
			x.told(x.ids())
			x.all(x.m.all()...)
			x.ready(x.m.ready()...)
		}
		x.same()
	}
}

// P17.1, P17.2: drawn graphs, all told, and then taken apart in a drawn order, one by one.
func TestTakenApart(t *testing.T) {
	r := rand.New(rand.NewSource(17))
	for range 150 {
		x := run{pair: newPair(t), r: r, most: 3 + r.Intn(12), adds: 10 + r.Intn(30)}
		for range 20 + r.Intn(100) {
			x.act()
		}
		x.same()
		order := slices.Clone(x.m.ids)
		r.Shuffle(len(order), func(i, k int) { order[i], order[k] = order[k], order[i] })
		x.unravel(order)
	}
}

// P17.1, P17.2: every graph of four, each by each set of needs: those that may be are told, the others refused.
func TestEachGraphOfFour(t *testing.T) {
	var pairs [][2]int
	for _, id := range upTo(4) {
		for _, other := range upTo(4) {
			if id != other {
				pairs = append(pairs, [2]int{id, other})
			}
		}
	}
	for set := range 1 << len(pairs) {
		p := built(t, upTo(4))
		for i, x := range pairs {
			if set>>i&1 == 1 {
				p.needs(x[0], x[1], p.m.copy().needs(x[0], x[1]))
			}
		}
		p.ready(p.m.ready()...)
		p.told([]int{1 + set%4})
		p.told(upTo(4))
		p.drop(1, 1+set%3)
		p.ready(p.m.ready()...)
		p.told(upTo(4))
	}
}

// graph makes a graph of the ids from 1 to n.
func graph(n int) *deps.Graph {
	g := deps.New()
	for i := range n {
		g.Add(i + 1)
	}
	return g
}

// isRow asks that from 1 on each needs the next one, up to n.
func isRow(t *testing.T, g *deps.Graph, n int) {
	t.Helper()
	lists := g.Levels(1)
	if len(lists) != n {
		t.Fatalf("%d lists", len(lists))
	}
	for i, l := range lists {
		if len(l) != 1 || l[0] != n-i {
			t.Fatalf("list %d: %v", i, l)
		}
	}
	if all := g.Closure(1); !slices.Equal(all, upTo(n)) {
		t.Fatalf("Closure: %d", len(all))
	}
	if code := g.Needs(n, 1); code != api.ErrLoop {
		t.Fatalf("Needs(%d, 1): %d", n, code)
	}
}

// P17.1, P17.2: a row of many, in whatever order its needs are told: each is told within moments, and none too deep.
func TestLongRow(t *testing.T) {
	const n = 50_000
	orders := [][]int{upTo(n - 1), upTo(n - 1), upTo(n - 1)}
	slices.Reverse(orders[1])
	rand.New(rand.NewSource(1)).Shuffle(n-1, func(i, k int) { orders[2][i], orders[2][k] = orders[2][k], orders[2][i] })
	for _, order := range orders {
		g := graph(n)
		for _, id := range order {
			if code := g.Needs(id, id+1); code != api.OK {
				t.Fatalf("Needs(%d, %d): %d", id, id+1, code)
			}
		}
		isRow(t, g, n)
		if dropped := g.Drop(upTo(n)...); dropped != n || len(g.All()) != 0 {
			t.Fatalf("Drop: %d", dropped)
		}
	}
}

// P17.1, P17.2: a ladder with two ways between all rungs: no way is gone twice, of which there are more than could be counted.
func TestLadder(t *testing.T) {
	const rungs = 5_000
	g := graph(2 * rungs)
	for id := 1; id <= 2*rungs-2; id++ {
		next := (id-1)/2*2 + 3 // the first one of the next rung
		for _, other := range []int{next, next + 1} {
			if code := g.Needs(id, other); code != api.OK {
				t.Fatalf("Needs(%d, %d): %d", id, other, code)
			}
		}
	}
	lists := g.Levels(1, 2)
	if len(lists) != rungs {
		t.Fatalf("%d lists", len(lists))
	}
	for i, l := range lists {
		if first := 2*(rungs-i) - 1; !slices.Equal(l, []int{first, first + 1}) {
			t.Fatalf("list %d: %v", i, l)
		}
	}
	if all := g.Closure(1); len(all) != 2*rungs-1 {
		t.Fatalf("Closure: %d", len(all))
	}
	for _, id := range []int{2 * rungs, rungs, 3} {
		if code := g.Needs(id, 1); code != api.ErrLoop {
			t.Fatalf("Needs(%d, 1): %d", id, code)
		}
	}
}

// P17.1, P17.2: one that all need, and one that needs all.
func TestHub(t *testing.T) {
	const n = 50_000
	g := graph(n)
	for id := 2; id < n; id++ {
		if a, b := g.Needs(id, 1), g.Needs(n, id); a != api.OK || b != api.OK {
			t.Fatalf("Needs of %d: %d, %d", id, a, b)
		}
	}
	if lists := g.Levels(n); len(lists) != 3 || !slices.Equal(lists[1], upTo(n - 1)[1:]) {
		t.Fatalf("%d lists", len(lists))
	}
	for id := 2; id < n; id++ {
		if code := g.Needs(1, id); code != api.ErrLoop {
			t.Fatalf("Needs(1, %d): %d", id, code)
		}
		if l := g.Levels(id); len(l) != 2 {
			t.Fatalf("Levels(%d): %v", id, l)
		}
	}
	if dropped := g.Drop(upTo(n)[1:]...); dropped != n-1 {
		t.Fatalf("Drop: %d", dropped)
	}
	if !slices.Equal(g.Ready(), []int{1}) || len(g.Levels(1)) != 1 {
		t.Fatalf("Ready: %v", g.Ready())
	}
}

// P17.1, P17.2: a dense graph, of as many as a disk may have sectors: of each two the one needs the other.
func TestDense(t *testing.T) {
	const n = 400
	g := graph(n)
	for id := n; id > 0; id-- {
		for other := 1; other < id; other++ {
			if code := g.Needs(id, other); code != api.OK {
				t.Fatalf("Needs(%d, %d): %d", id, other, code)
			}
		}
	}
	lists := g.Levels(n)
	if len(lists) != n {
		t.Fatalf("%d lists", len(lists))
	}
	for i, l := range lists {
		if !slices.Equal(l, []int{i + 1}) {
			t.Fatalf("list %d: %v", i, l)
		}
	}
	for id := range n {
		if code := g.Needs(1, id+1); code != api.ErrLoop {
			t.Fatalf("Needs(1, %d): %d", id+1, code)
		}
	}
}
