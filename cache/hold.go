package cache

import (
	"cmp"
	"slices"

	"purlin/api"
)

// sector is one that is held.
type sector struct {
	at     int
	bytes  [api.SectorSize]byte
	used   int // which of all Gets and Puts was the last one of it, from 1
	dirty  bool
	pinned bool
}

// byAge is the order of sectors with the oldest one first.
func byAge(a, b *sector) int {
	return cmp.Compare(a.used, b.used)
}

// byPlace is the order of sectors in which they stand on the disk.
func byPlace(a, b *sector) int {
	return cmp.Compare(a.at, b.at)
}

// places tells where sectors stand on the disk.
func places(sectors []*sector) []int {
	var all []int
	for _, s := range sectors {
		all = append(all, s.at)
	}
	return all
}

// find tells a sector that is held, or what is wrong with asking for it, also of a nil cache.
func (c *Cache) find(at int) (*sector, api.Errno) {
	if c == nil {
		return nil, api.ErrNil
	}
	s := c.held[at]
	if s == nil {
		return nil, api.ErrNone
	}
	return s, api.OK
}

// among tells those held that are asked for, in the order of compare; none of a nil cache.
func (c *Cache) among(asked func(*sector) bool, compare func(a, b *sector) int) []*sector {
	if c == nil {
		return nil
	}
	var some []*sector
	for _, s := range c.held {
		if asked(s) {
			some = append(some, s)
		}
	}
	slices.SortFunc(some, compare)
	return some
}

// hold holds a sector that was not held. Its bytes, and whether it may go, are the matter of the call that holds it.
func (c *Cache) hold(at int) *sector {
	s := &sector{at: at}
	c.held[at] = s
	return s
}

// lift takes a sector out of those that may go, if it is among them. It is not changed ahead of that, as its age tells where it stands there.
func (c *Cache) lift(s *sector) {
	if i, found := slices.BinarySearchFunc(c.loose, s, byAge); found {
		c.loose = slices.Delete(c.loose, i, i+1)
	}
}

// renew makes a sector the newest.
func (c *Cache) renew(s *sector) {
	c.uses++
	s.used = c.uses
}

// settle puts a sector that was lifted among those that may go, if it may, and lets go what is too much.
func (c *Cache) settle(s *sector) {
	if !s.dirty && !s.pinned {
		i, _ := slices.BinarySearchFunc(c.loose, s, byAge)
		c.loose = slices.Insert(c.loose, i, s)
	}
	c.forget(len(c.held) - c.most)
}

// forget lets go so many of those that may go, the oldest first, as far as there are any, and tells how many went.
func (c *Cache) forget(many int) int {
	many = min(max(many, 0), len(c.loose))
	for _, s := range c.loose[:many] {
		delete(c.held, s.at)
	}
	c.loose = slices.Delete(c.loose, 0, many)
	return many
}
