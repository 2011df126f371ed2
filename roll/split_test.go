package roll_test

import (
	"math"
	"slices"
	"testing"

	"purlin/api"
	"purlin/roll"
)

// four tells objects unlike one another.
func four() (a, b, c, d api.Object) {
	return object(3, 1, 5), object(2, 0, 6, 7), object(3, 1, 8), long(9, 0, 128)
}

// P19.1: Split: of no place: none, and all.
func TestSplitOfNoPlace(t *testing.T) {
	a, b, c, d := four()
	all := []api.Object{a, b, c, d}
	split(t, nil, nil, nil, nil)
	split(t, []api.Object{}, []int{}, nil, nil)
	split(t, all, nil, nil, all)
	split(t, all, []int{}, nil, all)
	split(t, all[:1], nil, nil, all[:1])
}

// P19.1: Split: some places, also the first one and the last one, out of order, and twice; both lists are in the objects' order.
func TestSplit(t *testing.T) {
	a, b, c, d := four()
	all := []api.Object{a, b, c, d}
	split(t, all, []int{0}, []api.Object{a}, []api.Object{b, c, d})
	split(t, all, []int{2}, []api.Object{c}, []api.Object{a, b, d})
	split(t, all, []int{3}, []api.Object{d}, []api.Object{a, b, c})
	split(t, all, []int{1, 3}, []api.Object{b, d}, []api.Object{a, c})
	split(t, all, []int{3, 1}, []api.Object{b, d}, []api.Object{a, c})
	split(t, all, []int{3, 0, 2}, []api.Object{a, c, d}, []api.Object{b})
	split(t, all, []int{2, 2}, []api.Object{c}, []api.Object{a, b, d})
	split(t, all, []int{2, 0, 2, 2, 0}, []api.Object{a, c}, []api.Object{b, d})
	split(t, all, []int{0, 1, 2, 3}, all, nil)
	split(t, all, []int{3, 2, 1, 0, 3, 2, 1, 0}, all, nil)
	split(t, []api.Object{a}, []int{0}, []api.Object{a}, nil)
}

// P19.1: Split: places below 0, and behind the end: no object has them.
func TestSplitOfFarPlaces(t *testing.T) {
	a, b, c, d := four()
	all := []api.Object{a, b, c, d}
	far := append(append([]int{4, 5, 100}, below...), above...)
	split(t, all, far, nil, all)
	split(t, nil, far, nil, nil)
	split(t, nil, []int{0, 1}, nil, nil)
	for _, i := range far {
		split(t, all, []int{i}, nil, all)
		split(t, all, []int{i, 1, i, 3}, []api.Object{b, d}, []api.Object{a, c})
		split(t, all, []int{2, i}, []api.Object{c}, []api.Object{a, b, d})
		split(t, nil, []int{i}, nil, nil)
	}
	room := append(make([]api.Object, 0, 9), all...) // what is behind the end is none of them
	room[:5][4] = object(1, 1, 1)
	split(t, room, []int{4, 3}, []api.Object{d}, []api.Object{a, b, c})
}

// P19.1: Split: objects that may not be are parted as the others are, with all that they have.
func TestSplitOfNone(t *testing.T) {
	all := []api.Object{{}, object(-1, 0, 1), object(3, 128, 1, 2), object(3, 4), object(3, 4, 4), long(3, 0, 300), object(math.MinInt, math.MaxInt, 7), {Sector: 5, At: -9}}
	split(t, all, []int{0, 2, 4, 6}, []api.Object{all[0], all[2], all[4], all[6]}, []api.Object{all[1], all[3], all[5], all[7]})
	split(t, all, []int{7, 5, 3, 1}, []api.Object{all[1], all[3], all[5], all[7]}, []api.Object{all[0], all[2], all[4], all[6]})
	split(t, all, nil, nil, all)
	for i, o := range all {
		split(t, all, []int{i}, []api.Object{o}, slices.Delete(slices.Clone(all), i, i+1))
	}
}

// P19.1: Split: objects that are alike are told apart by their places.
func TestSplitOfTwins(t *testing.T) {
	a, b, _, _ := four()
	split(t, []api.Object{a, a, a}, []int{1}, []api.Object{a}, []api.Object{a, a})
	split(t, []api.Object{a, b, a, b}, []int{0, 3}, []api.Object{a, b}, []api.Object{b, a})
}

// P19.1: Split, of each set of places of six objects, in either order.
func TestSplitOfEachSet(t *testing.T) {
	var all []api.Object
	for i := range 6 {
		all = append(all, object(i, i, byte(i)))
	}
	for set := range 1 << 6 {
		var is []int
		for i := range 6 {
			if set>>i&1 == 1 {
				is = append(is, i)
			}
		}
		some, others := splitByHand(all, is)
		split(t, all, is, some, others)
		slices.Reverse(is)
		split(t, all, is, some, others)
	}
}

// P19.1: Split, Sectors and Over of very many, with as many places: each ends within moments.
func TestMany(t *testing.T) {
	const n = 200_000
	var os []api.Object
	var is []int
	for i := range n {
		os = append(os, object(i*7919%n, i%128, byte(i)))
		is = append(is, n-1-i/2*2)
	}
	some, others := roll.Split(os, is...)
	if len(some) != n/2 || len(others) != n/2 || some[0].Sector != 7919 || others[1].Sector != 2*7919 {
		t.Errorf("Split: %d, %d", len(some), len(others))
	}
	all := roll.Sectors(append(os, os...)...)
	if len(all) != n || all[0] != 0 || all[n-1] != n-1 {
		t.Errorf("Sectors: %d", len(all))
	}
	if got := roll.Over(nil, 7919, os...); got[1] != 1 || len(got) != 128 {
		t.Errorf("Over: %v", got)
	}
}
