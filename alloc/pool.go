package alloc

import (
	"math"

	"purlin/api"
	"purlin/bits"
	"purlin/score"
)

// nearer tells how many times as good the group is that something is to be near.
const nearer = 2

// set is what is taken in one group. Its bytes are replaced, never changed where they are: so a copy of a set is one of its own.
type set struct {
	taken    []byte
	deferred []byte // some of those that are taken
}

// pool is all inodes, or all blocks, group by group.
type pool struct {
	groups int
	each   int // how many of them a group has
	sets   [api.MaxGroups]set
}

// empty makes a pool of which nothing is taken.
func empty(groups, each int) pool {
	p := pool{groups: groups, each: each}
	for k := range groups {
		p.sets[k] = set{taken: bits.Of(each), deferred: bits.Of(each)}
	}
	return p
}

// best tells the group whose score is the best; -1, if no group has one that is free.
func (p *pool) best(near int) int {
	scores := make([]float64, p.groups)
	for k := range scores {
		scores[k] = p.score(k)
		if k == near {
			scores[k] *= nearer
		}
	}
	return score.Best(scores...)
}

// score tells how good group k is. One that is full is no number, rather than a 0: else Best would pick it, if all are.
func (p *pool) score(k int) float64 {
	free := p.freeIn(k)
	if free == 0 {
		return math.NaN()
	}
	return score.Share(free, p.each)
}

// take takes the first one of the best group, and tells that group and the number in it; -1, -1.
func (p *pool) take(near int) (int, int) {
	k := p.best(near)
	if k < 0 {
		return -1, -1
	}
	in := &p.sets[k]
	i := bits.First(in.taken, 0, p.each)
	in.mark(i)
	return k, i
}

// firm makes free all that is deferred, and tells how many that were.
func (p *pool) firm() int {
	count := 0
	for k := range p.groups {
		in := &p.sets[k]
		for _, i := range bits.All(in.deferred, p.each) {
			in.taken = bits.With(in.taken, i, false)
			count++
		}
		in.deferred = bits.Of(p.each)
	}
	return count
}

// free tells how many are free in all groups.
func (p *pool) free() int {
	count := 0
	for k := range p.groups {
		count += p.freeIn(k)
	}
	return count
}

// freeIn tells how many are free in group k.
func (p *pool) freeIn(k int) int {
	return p.each - bits.Count(p.sets[k].taken, p.each)
}

// mark takes number i.
func (in *set) mark(i int) api.Errno {
	if bits.Has(in.taken, i) {
		return api.ErrExist
	}
	in.taken = bits.With(in.taken, i, true)
	return api.OK
}

// postpone lets number i be taken no longer than till firm.
func (in *set) postpone(i int) api.Errno {
	if !bits.Has(in.taken, i) || bits.Has(in.deferred, i) {
		return api.ErrNone
	}
	in.deferred = bits.With(in.deferred, i, true)
	return api.OK
}
