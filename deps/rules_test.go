package deps_test

import (
	"math"
	"slices"
	"sync"
	"testing"

	"purlin/api"
	"purlin/deps"
)

// R3: every method of a nil graph tells ErrNil, ahead of all else, or zero values.
func TestNil(t *testing.T) {
	var g *deps.Graph
	numbers := append(append([]int{1, 2}, below...), above...)
	for range 2 {
		for _, id := range numbers {
			if code := g.Add(id); code != api.ErrNil {
				t.Errorf("Add(%d): %d", id, code)
			}
			for _, other := range numbers {
				if code := g.Needs(id, other); code != api.ErrNil {
					t.Errorf("Needs(%d, %d): %d", id, other, code)
				}
			}
		}
		for _, ids := range [][]int{nil, {}, {1}, {1, 1, 2}, numbers} {
			if n := g.Drop(ids...); n != 0 {
				t.Errorf("Drop(%v): %d", ids, n)
			}
			if l := g.Closure(ids...); l != nil {
				t.Errorf("Closure(%v): %v", ids, l)
			}
			if l := g.Levels(ids...); l != nil {
				t.Errorf("Levels(%v): %v", ids, l)
			}
		}
		if l := g.Ready(); l != nil {
			t.Errorf("Ready: %v", l)
		}
		if l := g.All(); l != nil {
			t.Errorf("All: %v", l)
		}
	}
}

// R1: a graph that no call made does not panic either.
func TestZero(t *testing.T) {
	var g deps.Graph
	g.Needs(1, 2)
	g.Drop(1, 2)
	g.Closure(1)
	g.Levels(1)
	g.Ready()
	g.All()
	for range 2 {
		g.Add(1)
		g.Add(2)
		g.Needs(1, 2)
		g.Levels(1, 2)
		g.Drop(2)
	}
}

// diamonds makes a graph in which 1 needs 2 and 3, both need 4, 4 needs 5 and 6, and so on, and 20 needs nothing beside it.
func diamonds(t *testing.T) pair {
	t.Helper()
	p := built(t, upTo(10))
	for id := 1; id < 10; id += 3 {
		for _, x := range [][2]int{{id, id + 1}, {id, id + 2}, {id + 1, id + 3}, {id + 2, id + 3}} {
			if x[1] <= 10 {
				p.needs(x[0], x[1], api.OK)
			}
		}
	}
	p.add(20, api.OK)
	return p
}

// mark stands in spare room, and in what was answered: no graph has it.
const mark = -77

// spare tells the same ids, with spare room behind them.
func spare(ids []int) []int {
	l := make([]int, len(ids)+5)
	for i := range l {
		l[i] = mark
	}
	copy(l, ids)
	return l[:len(ids)]
}

// scribble writes all over a list, over its spare room too.
func scribble(l []int) {
	l = l[:cap(l)]
	for i := range l {
		l[i] = mark
	}
}

// R4: ids that are handed in stay as they are, their spare room too, and are not kept.
func TestIDsAreNotTouched(t *testing.T) {
	calls := map[string]func(g *deps.Graph, ids []int){
		"Closure": func(g *deps.Graph, ids []int) { g.Closure(ids...) },
		"Levels":  func(g *deps.Graph, ids []int) { g.Levels(ids...) },
		"Drop":    func(g *deps.Graph, ids []int) { g.Drop(ids...) },
	}
	for name, call := range calls {
		for _, ids := range [][]int{{}, {10}, {1}, {9, 3, 20, 3}, {7, 2, 99, 0, 4, 4, 1, -5, 20}, {10, 9, 8, 7, 6, 5, 4, 3, 2, 1, 20}} {
			p := diamonds(t)
			handed := spare(ids)
			call(p.g, handed)
			if name == "Drop" {
				p.m.drop(ids...)
			}
			want := spare(ids)
			if !slices.Equal(handed[:cap(handed)], want[:cap(want)]) {
				t.Fatalf("%s: %v is changed to %v", name, ids, handed[:cap(handed)])
			}
			scribble(handed)
			p.same()
		}
	}
}

// lists tells all lists that a graph answers of ids.
func (p pair) lists(ids []int) [][]int {
	return append(p.g.Levels(ids...), p.g.Closure(ids...), p.g.Ready(), p.g.All())
}

// copied tells a copy of lists.
func copied(l [][]int) [][]int {
	var c [][]int
	for _, x := range l {
		c = append(c, slices.Clone(x))
	}
	return c
}

// R4: what is answered shares no memory with another answer, each list of Levels' answer neither with another one of it, nor with what is handed in, nor with what the graph holds.
func TestAnswersShareNothing(t *testing.T) {
	ids := upTo(20)
	p := diamonds(t)
	want := copied(p.lists(ids))
	for i := range want {
		one, two := p.lists(ids), p.lists(ids)
		// What is written behind a list, or over it, is in that list alone.
		_ = append(one[i], mark, mark, mark, mark)
		if !alike(one, want) {
			t.Fatalf("list %d, which grows, reaches others: %v, not %v", i, one, want)
		}
		scribble(one[i])
		for k := range one {
			if k != i && !slices.Equal(one[k], want[k]) {
				t.Fatalf("list %d reaches list %d: %v, not %v", i, k, one[k], want[k])
			}
		}
		if !alike(two, want) || !slices.Equal(ids, upTo(20)) {
			t.Fatalf("list %d reaches another answer: %v, not %v; %v", i, two, want, ids)
		}
		p.same()
	}
	// The list of the lists of Levels.
	one, two := p.g.Levels(ids...), p.g.Levels(ids...)
	for i := range one {
		one[i] = []int{mark}
	}
	if n := len(two); !alike(two, want[:n]) {
		t.Fatalf("a list of lists reaches another: %v", two)
	}
	p.same()
}

// R4: what is done behind an answer does not reach it.
func TestAnswersStay(t *testing.T) {
	ids := upTo(20)
	p := diamonds(t)
	told := p.lists(ids)
	want := copied(told)
	p.add(11, api.OK)
	p.needs(10, 11, api.OK)
	p.needs(20, 1, api.OK)
	p.drop(3, 4, 2, 7)
	p.add(4, api.OK)
	p.lists(ids)
	p.drop(10, ids...)
	p.lists(ids)
	if !alike(told, want) {
		t.Fatalf("%v, not %v", told, want)
	}
}

// R5: graphs hang on their own calls alone.
func TestApart(t *testing.T) {
	a, b, c := newPair(t), newPair(t), diamonds(t)
	if a.g == b.g {
		t.Fatal("New told one graph twice")
	}
	for _, p := range []pair{a, b} {
		p.add(1, api.OK)
		p.add(2, api.OK)
	}
	a.needs(1, 2, api.OK)
	b.needs(2, 1, api.OK)
	a.needs(2, 1, api.ErrLoop)
	b.needs(1, 2, api.ErrLoop)
	c.drop(2, 1, 2)
	a.levels(upTo(2), []int{2}, []int{1})
	b.levels(upTo(2), []int{1}, []int{2})
	a.drop(1, 2)
	b.needs(1, 2, api.ErrLoop)
	for _, p := range []pair{a, b, c} {
		p.same()
	}
}

// R5: what is asked, and what is refused, changes nothing: a graph of which much is asked tells the same as one of which nothing is.
func TestAskingChangesNothing(t *testing.T) {
	asked, quiet := diamonds(t), diamonds(t)
	for _, gone := range [][]int{nil, {4}, {9, 2}, {20, 10}, {1, 7}} {
		for range 2 {
			for id := -2; id < 25; id++ {
				if id < 1 || asked.m.has(id) {
					asked.add(id, asked.m.copy().add(id))
				}
				for other := -2; other < 25; other++ {
					if code := asked.m.copy().needs(id, other); code != api.OK {
						asked.needs(id, other, code)
					}
				}
			}
			asked.needs(math.MaxInt, math.MinInt, api.ErrNone)
			asked.lists(upTo(25))
			asked.drop(0)
			asked.drop(0, 0, -1, 21, 22, math.MaxInt)
		}
		if one, two := asked.lists(upTo(25)), quiet.lists(upTo(25)); !alike(one, two) {
			t.Fatalf("%v, not %v", one, two)
		}
		asked.same()
		asked.drop(len(gone), gone...)
		quiet.drop(len(gone), gone...)
	}
}

// R5: the same calls tell the same, however often they are made: nothing hangs on the order in which a map is gone through.
func TestTheSameEachTime(t *testing.T) {
	first := diamonds(t).lists([]int{20, 7, 3, 1})
	for range 50 {
		p := diamonds(t)
		for range 3 {
			if l := p.lists([]int{20, 7, 3, 1}); !alike(l, first) {
				t.Fatalf("%v, not %v", l, first)
			}
		}
	}
}

// R5: graphs of several goroutines.
func TestSideBySide(t *testing.T) {
	var all sync.WaitGroup
	told := make([][][]int, 8)
	for i := range told {
		all.Go(func() {
			for range 20 {
				g := deps.New()
				for id := range 50 {
					g.Add(id + 1)
				}
				for id := 2; id <= 50; id++ {
					g.Needs(id, id/2)
					g.Needs(id/2, id)
					g.Needs(id, id/3)
				}
				g.Drop(7, 11, 30)
				told[i] = append(g.Levels(g.All()...), g.Ready(), g.Closure(50, 49))
			}
		})
	}
	all.Wait()
	for i := range told {
		if !alike(told[i], told[0]) {
			t.Fatalf("goroutine %d: %v, not %v", i, told[i], told[0])
		}
	}
}
