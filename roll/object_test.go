package roll_test

import (
	"math"
	"slices"
	"testing"

	"purlin/api"
)

// P19.1: May, of ordinary objects.
func TestMay(t *testing.T) {
	may(t, object(3, 1, 5), true)
	may(t, object(3, 1, 0), true)
	may(t, object(7, 20, 1, 2, 3), true)
	may(t, long(1, 30, 40), true)
}

// P19.1: May: a Sector of 0, below it, and as great as an int can be: it has no upper bound.
func TestMayOfSector(t *testing.T) {
	for sector := range 3000 {
		may(t, object(sector, 0, 9), true)
	}
	for _, sector := range above {
		may(t, object(sector, 0, 9), true)
		may(t, long(sector, 0, size), true)
		may(t, object(sector, 127, 9), true)
		may(t, object(sector, 128, 9), false)
		may(t, object(sector, 0), false)
	}
	for _, sector := range below {
		may(t, object(sector, 0, 9), false)
		may(t, long(sector, 0, size), false)
		may(t, object(sector, 127, 9), false)
	}
}

// P19.1: May: every At about a sector, with every number of bytes: the last byte at the sector's end and one behind it.
func TestMayOfBytes(t *testing.T) {
	for _, sector := range []int{0, 5} {
		for at := -140; at <= 140; at++ {
			for n := 0; n <= 140; n++ {
				may(t, api.Object{Sector: sector, At: at, Bytes: make([]byte, n)}, at >= 0 && n >= 1 && at+n <= 128)
			}
		}
	}
	may(t, long(0, 0, 128), true)
	may(t, long(0, 0, 129), false)
	may(t, long(0, 1, 127), true)
	may(t, long(0, 1, 128), false)
	may(t, long(0, 127, 1), true)
	may(t, long(0, 127, 2), false)
	may(t, long(0, 128, 1), false)
	may(t, object(0, 128), false)
}

// P19.1: May: an At as great, or as far below 0, as an int can be, with so many bytes that their sum would wrap round.
func TestMayOfFarAt(t *testing.T) {
	for _, at := range append(slices.Clone(below), above...) {
		for _, n := range []int{0, 1, 2, 126, 127, 128, 129, 130, 255, 256, 257, 1000} {
			may(t, api.Object{At: at, Bytes: make([]byte, n)}, false)
			may(t, api.Object{Sector: math.MaxInt, At: at, Bytes: make([]byte, n)}, false)
			may(t, api.Object{Sector: -1, At: at, Bytes: make([]byte, n)}, false)
		}
	}
}

// P19.1: May: no byte at all, however much room there is behind; more than a sector has, by far.
func TestMayOfNone(t *testing.T) {
	may(t, api.Object{}, false)
	for at := -2; at <= 130; at++ {
		may(t, api.Object{Sector: 1, At: at}, false)
		may(t, api.Object{Sector: 1, At: at, Bytes: []byte{}}, false)
		may(t, api.Object{Sector: 1, At: at, Bytes: make([]byte, 0, 50)}, false)
		may(t, api.Object{Sector: 1, At: at, Bytes: make([]byte, 1<<16)}, false)
	}
	// Room is no byte: neither too much of it, nor enough.
	may(t, api.Object{Sector: 1, At: 120, Bytes: make([]byte, 8, 500)}, true)
	may(t, api.Object{Sector: 1, At: 120, Bytes: make([]byte, 9, 500)}, false)
	may(t, api.Object{Sector: 1, At: 0, Bytes: make([]byte, 1<<24)}, false)
}

// P19.1: Touch: neighbours with no byte in common, and those with one.
func TestTouch(t *testing.T) {
	touch(t, object(3, 10, 1, 2, 3), object(3, 13, 4), false)
	touch(t, object(3, 10, 1, 2, 3), object(3, 12, 4), true)
	touch(t, object(3, 10, 1, 2, 3), object(3, 9, 4), false)
	touch(t, object(3, 10, 1, 2, 3), object(3, 9, 4, 5), true)
	touch(t, object(3, 10, 1, 2, 3), object(3, 11, 4), true)                 // within
	touch(t, object(3, 10, 1, 2, 3), object(3, 8, make([]byte, 9)...), true) // about it
	touch(t, object(3, 10, 1, 2, 3), object(3, 10, 1, 2, 3), true)
	touch(t, object(3, 10, 1, 2, 3), object(3, 100, 1, 2, 3), false)
	touch(t, object(0, 0, 7), object(0, 0, 7), true)
	touch(t, object(0, 127, 7), object(0, 127, 8), true)
	touch(t, object(0, 126, 7), object(0, 127, 7), false)
	touch(t, long(0, 0, 127), object(0, 127, 7), false)
	touch(t, long(0, 0, 128), object(0, 127, 7), true)
	touch(t, long(0, 0, 64), long(0, 64, 64), false)
	touch(t, long(0, 0, 65), long(0, 64, 64), true)
	touch(t, long(9, 0, 128), long(9, 0, 128), true)
}

// P19.1: Touch, of all pairs of places of a few bytes, and of all that begin or end at a sector's ends.
func TestTouchEachPair(t *testing.T) {
	var os []api.Object
	for at := -1; at <= 9; at++ {
		for n := range 6 {
			os = append(os, long(2, at, n))
		}
	}
	for n := range 6 {
		os = append(os, long(2, 128-n, n), long(2, 127-n, n), long(2, 129-n, n), long(2, 0, 128-n), long(2, n, 128-n), long(2, n, 129-n))
	}
	for _, a := range os {
		for _, b := range os {
			touch(t, a, b, touchByHand(a, b))
		}
	}
}

// P19.1: Touch, of the same places in other sectors: false, also where the numbers are far.
func TestTouchOfOtherSectors(t *testing.T) {
	numbers := append([]int{0, 1, 2, 3}, above...)
	for _, a := range numbers {
		for _, b := range numbers {
			touch(t, object(a, 10, 1, 2), object(b, 10, 1, 2), a == b)
			touch(t, long(a, 0, 128), long(b, 0, 128), a == b)
			touch(t, object(a, 10, 1, 2), object(b, 12, 1, 2), false)
		}
	}
	touch(t, object(2, 127, 1, 2), object(3, 0, 2), false) // no object goes on in the next sector
}

// P19.1: Touch: false, if one may not be, or both, whatever it seems to have in common.
func TestTouchOfNone(t *testing.T) {
	whole := long(3, 0, 128)
	for _, o := range []api.Object{
		{}, object(3, 0), object(3, 64), object(3, 127), object(3, 128, 1), object(3, 127, 1, 2), long(3, 0, 129), long(3, 1, 128), long(3, -1, 2), long(3, -1, 129), long(3, -128, 256),
		object(-3, 0, 1), long(-1, 0, 128), {Sector: 3, Bytes: make([]byte, 0, 10)}, long(3, math.MaxInt, 1), long(3, math.MaxInt-1, 2), long(3, math.MinInt, 5), long(3, math.MaxInt, 128), long(3, math.MinInt, 200),
	} {
		touch(t, whole, o, false)
		touch(t, o, o, false)
		touch(t, long(3, 100, 28), o, false)
		touch(t, object(3, 0, 1), o, false)
		for _, sector := range below {
			touch(t, long(sector, 0, 128), o, false)
		}
	}
	for _, sector := range below {
		touch(t, long(sector, 5, 6), long(sector, 5, 6), false)
	}
	for _, place := range append(slices.Clone(below), above...) {
		touch(t, long(3, place, 2), long(3, place, 2), false)
		touch(t, long(3, place, 2), whole, false)
	}
}

// P19.1: Sectors: of none, of one, of several, out of order, some of them twice.
func TestSectors(t *testing.T) {
	sectors(t, nil)
	sectors(t, []int{0}, object(0, 0, 1))
	sectors(t, []int{7}, object(7, 0, 1))
	sectors(t, []int{7}, object(7, 0, 1), object(7, 0, 1))
	sectors(t, []int{7}, object(7, 0, 1), object(7, 100, 2, 3), object(7, 5, 1))
	sectors(t, []int{1, 2, 3}, object(1, 0, 1), object(2, 0, 1), object(3, 0, 1))
	sectors(t, []int{1, 2, 3}, object(3, 0, 1), object(2, 0, 1), object(1, 0, 1))
	sectors(t, []int{2, 3, 10}, object(10, 0, 1), object(2, 0, 1), object(3, 9, 1), object(10, 0, 1), object(2, 0, 1))
	sectors(t, []int{0, 9, 12, 100}, object(9, 0, 1), object(100, 0, 1), object(9, 1, 1), object(0, 0, 1), object(12, 0, 1), object(9, 2, 1), object(0, 0, 1))
}

// P19.1: Sectors: each number that may be one, rising as numbers.
func TestSectorsFar(t *testing.T) {
	var os []api.Object
	for _, sector := range above {
		os = append(os, object(sector, 3, 1))
	}
	want := slices.Sorted(slices.Values(above))
	sectors(t, want, os...)
	slices.Reverse(os)
	sectors(t, want, append(os, os...)...)
}

// P19.1: Sectors: objects that may not be count for nothing, alone, first, last, between, and beside others of that sector.
func TestSectorsOfNone(t *testing.T) {
	none := []api.Object{{}, object(4, 0), object(4, 128, 1), object(4, 127, 1, 2), object(4, -1, 1, 2), long(4, 0, 129), object(-1, 0, 1), object(math.MinInt, 0, 1), object(4, math.MaxInt, 1), object(4, math.MinInt, 1)}
	sectors(t, nil, none...)
	for _, o := range none {
		sectors(t, nil, o)
		sectors(t, nil, o, o)
		sectors(t, []int{2, 6}, o, object(6, 0, 1), object(2, 0, 1))
		sectors(t, []int{2, 6}, object(6, 0, 1), o, object(2, 0, 1), o)
		sectors(t, []int{2, 6}, object(6, 0, 1), object(2, 0, 1), o)
		sectors(t, []int{4, 6}, object(6, 0, 1), o, object(4, 0, 1), o)
	}
}
