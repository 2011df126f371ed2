package mkfs

import (
	"cmp"

	"purlin/api"
	"purlin/geom"
)

// Fit tells the geometry that makes the most of so many sectors.
func Fit(sectors int) api.Geometry {
	var best api.Geometry
	for groups := 1; groups <= api.MaxGroups; groups++ {
	inodes:
		for inodes := api.MinInodes; inodes <= api.MaxInodes; inodes += perSector {
			for blocks := api.MaxBlocks; blocks >= api.MinBlocks; blocks-- {
				g := api.Geometry{Groups: groups, Inodes: inodes, Blocks: blocks}
				if geom.Sectors(g) > sectors {
					continue
				}
				if better(g, best) {
					best = g
				}
				// Fewer blocks would fit too, but be worse.
				continue inodes
			}
		}
	}
	return best
}

// better tells whether a is to be taken rather than b, which may be none.
func better(a, b api.Geometry) bool {
	return cmp.Or(
		cmp.Compare(geom.Blocks(a), geom.Blocks(b)),
		cmp.Compare(geom.Inodes(a), geom.Inodes(b)),
		cmp.Compare(b.Groups, a.Groups),
	) > 0
}
