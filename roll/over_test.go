package roll_test

import (
	"math"
	"slices"
	"testing"

	"purlin/api"
)

// P19.1: Over: no object: old as it is, shorter than a sector, as long, longer.
func TestOverOfNoObject(t *testing.T) {
	over(t, make([]byte, 128), nil, 3)
	over(t, make([]byte, 128), []byte{}, 3)
	over(t, filled(1, 2), []byte{1, 2}, 3)
	over(t, filled(row(127, 0)...), row(127, 0), 3)
	over(t, row(128, 0), row(128, 0), 3)
	over(t, row(128, 0), row(129, 0), 3)
	over(t, row(128, 0), row(1<<20, 0), 3)
	for n := range 300 {
		for _, sector := range []int{3, 0, -1, math.MinInt, math.MaxInt} {
			over(t, overByHand(row(n, 5), sector, nil), row(n, 5), sector)
		}
	}
}

// P19.1: Over: zeros behind an old that is shorter, also where it has other bytes in its spare room.
func TestOverReadsNoRoom(t *testing.T) {
	for n := range 128 {
		old := row(200, 1)[:n]
		over(t, filled(old...), old, 3)
		over(t, set(filled(old...), 100, 9), old, 3, object(3, 100, 9))
	}
}

// P19.1: Over: one object, at either end of a sector, between, and as long as it is.
func TestOver(t *testing.T) {
	over(t, filled(1, 5), []byte{1, 2}, 3, object(3, 1, 5))
	over(t, filled(0, 5), nil, 3, object(3, 1, 5))
	over(t, filled(1, 0), []byte{1, 2}, 3, object(3, 1, 0)) // a 0 is a byte as any other
	old := row(128, 2)
	over(t, set(old, 0, 0), old, 3, object(3, 0, 0))
	over(t, set(old, 127, 0), old, 3, object(3, 127, 0))
	over(t, set(old, 40, 7, 8, 9), old, 3, object(3, 40, 7, 8, 9))
	over(t, set(old, 0, 7, 8, 9), old, 3, object(3, 0, 7, 8, 9))
	over(t, set(old, 125, 7, 8, 9), old, 3, object(3, 125, 7, 8, 9))
	over(t, row(128, 90), old, 3, api.Object{Sector: 3, Bytes: row(128, 90)})
	over(t, set(old, 127, 9), append(slices.Clone(old), 1, 1, 1), 3, object(3, 127, 9)) // of an old that is longer
	for at := range 128 {
		for n := 1; n <= 128-at; n++ {
			o := long(0, at, n)
			over(t, set(old, at, o.Bytes...), old, 0, o)
			over(t, set(make([]byte, 128), at, o.Bytes...), nil, 0, o)
		}
	}
}

// P19.1: Over: objects of other sectors count for nothing, also those of numbers that fewer bits would make alike.
func TestOverOfOtherSectors(t *testing.T) {
	old := row(128, 2)
	over(t, old, old, 3, object(2, 0, 1), object(4, 1, 1), long(0, 0, 128))
	over(t, set(old, 5, 99), old, 3, object(2, 0, 0), object(3, 5, 99), long(4, 0, 128))
	over(t, old, old, 0, long(1<<32, 0, 128), long(1<<62, 0, 128), long(math.MaxInt, 0, 128))
	numbers := append([]int{0, 1, 3}, above...)
	for _, a := range numbers {
		for _, b := range numbers {
			want := old
			if a == b {
				want = set(old, 7, 0, 0)
			}
			over(t, want, old, a, object(b, 7, 0, 0))
		}
	}
}

// P19.1: Over: objects that may not be count for nothing: not a byte of them, also of those that have some within the sector.
func TestOverOfNone(t *testing.T) {
	old := row(128, 2)
	none := []api.Object{
		{}, {Sector: 3}, object(3, 5), object(3, 128, 1), object(3, 127, 1, 2), object(3, 126, 1, 2, 3), long(3, 0, 129), long(3, 1, 128), long(3, 0, 5000), object(3, -1, 1, 2), object(3, -1, 1), long(3, -5, 133), long(3, -128, 129),
		object(3, math.MaxInt, 1), long(3, math.MaxInt, 128), long(3, math.MaxInt-127, 128), object(3, math.MinInt, 1), long(3, math.MinInt, 300), {Sector: 3, At: 5, Bytes: row(9, 1)[:0]},
	}
	over(t, old, old, 3, none...)
	over(t, make([]byte, 128), nil, 3, none...)
	for _, o := range none {
		over(t, old, old, 3, o)
		over(t, set(old, 9, 0), old, 3, o, object(3, 9, 0), o)
		over(t, set(old, 9, 0), old, 3, object(3, 9, 0), o, o)
		over(t, set(old, 9, 0), old, 3, o, o, object(3, 9, 0))
	}
	for _, sector := range below { // objects of such a sector may not be, so nothing lies over it
		over(t, old, old, sector, object(sector, 0, 0), long(sector, 0, 128))
		over(t, filled(1), []byte{1}, sector, object(sector, 1, 7))
	}
}

// P19.1: Over: of objects that lie over one another the later one counts, as far as it goes.
func TestOverInOrder(t *testing.T) {
	a, b, c := object(3, 2, 11, 12, 13, 14), object(3, 4, 21, 22, 23, 24), object(3, 3, 31, 32)
	over(t, filled(0, 0, 11, 12, 21, 22, 23, 24), nil, 3, a, b)
	over(t, filled(0, 0, 11, 12, 13, 14, 23, 24), nil, 3, b, a)
	over(t, filled(0, 0, 11, 31, 32, 22, 23, 24), nil, 3, a, b, c)
	over(t, filled(0, 0, 11, 31, 21, 22, 23, 24), nil, 3, a, c, b)
	over(t, filled(0, 0, 11, 12, 21, 22, 23, 24), nil, 3, c, a, b)
	over(t, filled(0, 0, 11, 12, 13, 14, 23, 24), nil, 3, c, b, a)
	over(t, filled(0, 0, 11, 12, 13, 14, 23, 24), nil, 3, a, b, c, b, a) // the same ones again
	over(t, filled(6), nil, 3, object(3, 0, 5), object(3, 0, 6))
	over(t, filled(5), nil, 3, object(3, 0, 6), object(3, 0, 5))
	over(t, filled(0), nil, 3, object(3, 0, 6), object(3, 0, 0))
	over(t, row(128, 4), row(128, 3), 3, object(3, 0, 9), object(3, 127, 9), api.Object{Sector: 3, Bytes: row(128, 4)})
	over(t, set(row(128, 4), 0, 9), row(128, 3), 3, object(3, 127, 9), api.Object{Sector: 3, Bytes: row(128, 4)}, object(3, 0, 9))
	over(t, filled(1, 2, 3, 4), nil, 3, object(3, 2, 3, 4), object(3, 0, 1, 2)) // side by side
}
