package deps_test

import (
	"math"
	"slices"
	"testing"

	"purlin/api"
)

// P17.2: Closure and Levels of none: of no ids, of ids that are not there, in a graph of none and in one of some.
func TestOfNone(t *testing.T) {
	for _, p := range []pair{newPair(t), built(t, []int{3, 4}, [2]int{3, 4})} {
		for _, ids := range [][]int{nil, {}, {1}, {2, 2}, {5, 1, 0, -1}, below, above} {
			if got := p.g.Closure(ids...); len(got) != 0 {
				t.Fatalf("Closure(%v): %v", ids, got)
			}
			if got := p.g.Levels(ids...); len(got) != 0 {
				t.Fatalf("Levels(%v): %v", ids, got)
			}
		}
	}
}

// P17.2: Closure and Levels of one, of several, of the same twice, of such as are not there beside them, of all.
func TestOfSome(t *testing.T) {
	p := built(t, []int{9, 2, 7, 4, 5, 6, 3, 8, 1}, [2]int{9, 4}, [2]int{4, 1}, [2]int{2, 7}, [2]int{7, 1}, [2]int{7, 8}, [2]int{5, 3})
	for _, x := range []struct {
		ids  []int
		want [][]int
	}{
		{[]int{1}, [][]int{{1}}},
		{[]int{6}, [][]int{{6}}},
		{[]int{4}, [][]int{{1}, {4}}},
		{[]int{9}, [][]int{{1}, {4}, {9}}},
		{[]int{2}, [][]int{{1, 8}, {7}, {2}}},
		{[]int{7, 4}, [][]int{{1, 8}, {4, 7}}},
		{[]int{4, 7}, [][]int{{1, 8}, {4, 7}}},
		{[]int{9, 4}, [][]int{{1}, {4}, {9}}},
		{[]int{1, 9}, [][]int{{1}, {4}, {9}}},
		{[]int{9, 9, 9}, [][]int{{1}, {4}, {9}}},
		{[]int{9, 1, 4, 1, 9}, [][]int{{1}, {4}, {9}}},
		{[]int{10, 9, 0, -9, 11, math.MaxInt, math.MinInt}, [][]int{{1}, {4}, {9}}},
		{[]int{9, 2}, [][]int{{1, 8}, {4, 7}, {2, 9}}},
		{[]int{5, 6, 2}, [][]int{{1, 3, 6, 8}, {5, 7}, {2}}},
		{upTo(9), [][]int{{1, 3, 6, 8}, {4, 5, 7}, {2, 9}}},
		{[]int{9, 8, 7, 6, 5, 4, 3, 2, 1}, [][]int{{1, 3, 6, 8}, {4, 5, 7}, {2, 9}}},
		{[]int{9, 6, 5, 2}, [][]int{{1, 3, 6, 8}, {4, 5, 7}, {2, 9}}},
	} {
		for range 2 {
			p.levels(x.ids, x.want...)
			want := slices.Sorted(slices.Values(slices.Concat(x.want...)))
			if got := p.g.Closure(x.ids...); !slices.Equal(got, want) {
				t.Fatalf("Closure(%v): %v, not %v", x.ids, got, want)
			}
		}
	}
	p.same()
}

// P17.2: Levels: what is needed over two ways of unlike length stands ahead of all of both; what needs it stands behind the longer one, in whatever order the ways were made, and asked.
func TestUnlikeWays(t *testing.T) {
	pairs := [][2]int{{1, 2}, {2, 3}, {3, 4}, {1, 4}, {1, 3}}
	for _, order := range orders([]int{0, 1, 2, 3, 4}) {
		p := built(t, upTo(6))
		for _, i := range order {
			p.needs(pairs[i][0], pairs[i][1], api.OK)
		}
		p.levels([]int{1}, []int{4}, []int{3}, []int{2}, []int{1})
		p.levels([]int{4, 3, 2, 1}, []int{4}, []int{3}, []int{2}, []int{1})
		p.levels([]int{3, 5}, []int{4, 5}, []int{3})
		// One that needs what stands in the first list, and in the last but one.
		p.needs(6, 4, api.OK)
		p.needs(6, 2, api.OK)
		p.levels([]int{6}, []int{4}, []int{3}, []int{2}, []int{6})
		p.levels([]int{6, 1}, []int{4}, []int{3}, []int{2}, []int{1, 6})
		p.same()
	}
}

// P17.2: Levels: a list is told as early as it may be: what has few needs stands far ahead of what needs it, and each list rises, whatever the order in which all were added.
func TestLevelsAreEarly(t *testing.T) {
	for _, ids := range [][]int{upTo(12), {12, 11, 10, 9, 8, 7, 6, 5, 4, 3, 2, 1}, {7, 1, 12, 4, 9, 2, 10, 6, 3, 11, 5, 8}} {
		p := built(t, ids, [2]int{12, 11}, [2]int{11, 10}, [2]int{10, 9}, [2]int{12, 1}, [2]int{8, 1}, [2]int{7, 8}, [2]int{7, 9}, [2]int{2, 3}, [2]int{6, 3}, [2]int{2, 8})
		p.levels([]int{12, 7, 2, 6, 5, 4}, []int{1, 3, 4, 5, 9}, []int{6, 8, 10}, []int{2, 7, 11}, []int{12})
		p.levels([]int{12, 7}, []int{1, 9}, []int{8, 10}, []int{7, 11}, []int{12})
		p.same()
	}
}

// P17.2: Levels: what is not in the closure does not matter for it, needed or needing.
func TestLevelsOfTheClosureAlone(t *testing.T) {
	p := built(t, upTo(7), [2]int{1, 2}, [2]int{3, 1}, [2]int{3, 4}, [2]int{4, 5}, [2]int{5, 2}, [2]int{6, 1}, [2]int{6, 7})
	p.levels([]int{1}, []int{2}, []int{1})
	p.levels([]int{5, 1}, []int{2}, []int{1, 5})
	p.levels([]int{6}, []int{2, 7}, []int{1}, []int{6})
	p.levels([]int{3}, []int{2}, []int{1, 5}, []int{4}, []int{3})
	if got := p.g.Closure(1); !slices.Equal(got, []int{1, 2}) {
		t.Fatalf("Closure(1): %v", got)
	}
	p.same()
}

// P17.2: ids rise by numbers, whatever the way they are added, and however far they are from each other.
func TestRising(t *testing.T) {
	ids := []int{math.MaxInt, 10, 9, 1 << 32, 100, 1, 2048, 1<<32 - 1, 11, 2, math.MaxInt - 1}
	p := built(t, ids)
	rising := slices.Sorted(slices.Values(ids))
	p.all(rising...)
	p.ready(rising...)
	p.levels(ids, rising)
	for _, id := range ids[:10] {
		p.needs(id, math.MaxInt-1, api.OK)
	}
	p.ready(math.MaxInt - 1)
	p.levels(ids, []int{math.MaxInt - 1}, slices.Sorted(slices.Values(ids[:10])))
	p.same()
}

// P17.2: Ready and All of none, of one, of many, ahead of Needs and Drop, between them, and behind them.
func TestReadyAndAll(t *testing.T) {
	p := newPair(t)
	p.ready()
	p.all()
	p.add(5, api.OK)
	p.ready(5)
	p.all(5)
	p.needs(5, 5, api.ErrLoop)
	p.ready(5)
	p.add(3, api.OK)
	p.ready(3, 5)
	p.needs(5, 3, api.OK)
	p.ready(3)
	p.all(3, 5)
	p.add(4, api.OK)
	p.ready(3, 4)
	p.needs(5, 4, api.OK)
	p.needs(5, 4, api.OK)
	p.needs(3, 5, api.ErrLoop)
	p.ready(3, 4)
	p.all(3, 4, 5)
	p.drop(1, 3)
	p.ready(4)
	p.all(4, 5)
	p.drop(1, 4)
	p.ready(5)
	p.all(5)
	p.drop(1, 5)
	p.ready()
	p.all()
	for id := 60; id > 0; id-- {
		p.add(id, api.OK)
	}
	p.ready(upTo(60)...)
	p.all(upTo(60)...)
	for id := 2; id <= 60; id++ {
		p.needs(id, id/2, api.OK)
	}
	p.ready(1)
	p.all(upTo(60)...)
	p.drop(1, 1)
	p.ready(2, 3)
	p.drop(2, 3, 2)
	p.ready(4, 5, 6, 7)
	p.same()
}
