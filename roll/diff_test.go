package roll_test

import (
	"math"
	"testing"

	"purlin/api"
)

// P19.1: the example of the chapter.
func TestExample(t *testing.T) {
	diff(t, 3, []byte{1, 2}, []byte{1, 5}, object(3, 1, 5))
}

// P19.1: Diff: nothing differs, of bytes of each length, also where one is cut off or filled up with zeros.
func TestDiffOfNothing(t *testing.T) {
	diff(t, 3, nil, nil)
	diff(t, 3, nil, []byte{})
	diff(t, 3, nil, make([]byte, 128))
	diff(t, 3, make([]byte, 128), nil)
	diff(t, 3, []byte{1, 2}, filled(1, 2))
	diff(t, 3, filled(1, 2), []byte{1, 2})
	diff(t, 3, []byte{1, 2, 0, 0}, []byte{1, 2, 0})
	diff(t, 3, row(128, 1), append(row(128, 1), 7, 8, 9)) // what is behind a sector's end does not count
	diff(t, 3, append(row(128, 1), 7), append(row(128, 1), 8))
	diff(t, 3, append(row(128, 1), 7), row(128, 1))
	for n := range 200 {
		diff(t, 0, row(n, 3), row(n, 3))
	}
}

// P19.1: Diff: all differs: one object of a whole sector.
func TestDiffOfAll(t *testing.T) {
	diff(t, 3, row(128, 1), row(128, 2), api.Object{Sector: 3, Bytes: row(128, 2)})
	diff(t, 0, nil, row(128, 2), api.Object{Bytes: row(128, 2)})
	diff(t, 0, row(128, 2), nil, api.Object{Bytes: make([]byte, 128)})
	diff(t, 9, row(128, 2), []byte{}, api.Object{Sector: 9, Bytes: make([]byte, 128)})
	diff(t, 9, row(500, 1), row(600, 2), api.Object{Sector: 9, Bytes: row(128, 2)})
}

// P19.1: Diff: old or now is shorter: zeros are behind it, and nothing of what stands in its spare room.
func TestDiffOfShort(t *testing.T) {
	diff(t, 3, nil, []byte{1}, object(3, 0, 1))
	diff(t, 3, []byte{1}, nil, object(3, 0, 0))
	diff(t, 3, []byte{1, 2, 3}, []byte{1}, object(3, 1, 0, 0))
	diff(t, 3, []byte{1}, []byte{1, 2, 3}, object(3, 1, 2, 3))
	diff(t, 3, []byte{1, 0, 3}, []byte{1}, object(3, 2, 0))
	diff(t, 3, nil, []byte{0, 0, 7, 0, 7, 7, 0}, object(3, 2, 7), object(3, 4, 7, 7))
	for n := range 128 {
		short, whole := row(200, 1)[:n], row(128, 1)
		diff(t, 3, whole, short, api.Object{Sector: 3, At: n, Bytes: make([]byte, 128-n)})
		diff(t, 3, short, whole, api.Object{Sector: 3, At: n, Bytes: whole[n:]})
		diff(t, 3, short, row(200, 1)[:n])
		diff(t, 3, filled(short...), short)
	}
}

// P19.1: Diff: old or now is longer: its first bytes count, up to the last one of a sector.
func TestDiffOfLong(t *testing.T) {
	old := row(200, 1)
	diff(t, 3, old, set(old, 128, 0))
	diff(t, 3, old, set(old, 127, 0, 0), object(3, 127, 0))
	diff(t, 3, old, set(old, 126, 0, 0, 0, 0), object(3, 126, 0, 0))
	diff(t, 3, old[:128], set(old, 127, 0, 0), object(3, 127, 0))
	diff(t, 3, old, set(old, 127, 0)[:128], object(3, 127, 0))
	diff(t, 3, old, set(old, 199, 0))
}

// P19.1: Diff: a run of each length at each place, at the start and at the end too.
func TestDiffOfOneRun(t *testing.T) {
	old := row(128, 1)
	for at := range 128 {
		for n := 1; n <= 128-at; n++ {
			b := row(n, 2)
			for i := range b { // each of them differs
				b[i] = old[at+i] ^ 0x80
			}
			diff(t, 5, old, set(old, at, b...), object(5, at, b...))
		}
	}
}

// P19.1: Diff: a byte that differs by one bit alone.
func TestDiffOfOneBit(t *testing.T) {
	for bit := range 8 {
		for _, x := range []byte{0, 0xFF, 0x55} {
			diff(t, 5, []byte{9, x, 9}, []byte{9, x ^ 1<<bit, 9}, object(5, 1, x^1<<bit))
		}
	}
}

// P19.1: Diff: two runs: with one byte between that is alike there are two, at the start, at the end, and between.
func TestDiffOfTwoRuns(t *testing.T) {
	diff(t, 3, []byte{1, 2, 3}, []byte{7, 2, 8}, object(3, 0, 7), object(3, 2, 8))
	diff(t, 3, []byte{1, 2, 3, 4, 5, 6, 7}, []byte{1, 9, 9, 4, 9, 9, 7}, object(3, 1, 9, 9), object(3, 4, 9, 9))
	old := make([]byte, 128)
	diff(t, 3, old, set(set(old, 0, 1), 127, 2), object(3, 0, 1), object(3, 127, 2))
	diff(t, 3, old, set(old, 125, 1, 0, 2), object(3, 125, 1), object(3, 127, 2))
	diff(t, 3, old, set(old, 124, 1, 0, 2), object(3, 124, 1), object(3, 126, 2))
	for alike := range 128 { // all differs but one
		var want []api.Object
		if alike > 0 {
			want = append(want, object(3, 0, row(128, 6)[:alike]...))
		}
		if alike < 127 {
			want = append(want, object(3, alike+1, row(128, 6)[alike+1:]...))
		}
		diff(t, 3, set(make([]byte, 128), alike, row(128, 6)[alike]), row(128, 6), want...)
	}
	for a := range 128 { // two bytes differ
		for b := a + 1; b < 128; b++ {
			want := []api.Object{object(3, a, 1), object(3, b, 2)}
			if b == a+1 {
				want = []api.Object{object(3, a, 1, 2)}
			}
			diff(t, 3, old, set(set(old, a, 1), b, 2), want...)
		}
	}
}

// P19.1: Diff: every other byte differs, from the first one on and from the second one on: as many runs as there may be.
func TestDiffOfManyRuns(t *testing.T) {
	for from := range 2 {
		old, now := make([]byte, 128), make([]byte, 128)
		var want []api.Object
		for at := from; at < 128; at += 2 {
			now[at] = byte(at + 1)
			want = append(want, object(8, at, byte(at+1)))
		}
		diff(t, 8, old, now, want...)
	}
}

// P19.1: Diff: each set of ten bytes that differ, at the start of a sector and at its end.
func TestDiffOfEachSet(t *testing.T) {
	for set := range 1 << 10 {
		for _, from := range []int{0, 118} {
			old, now := row(128, 1), row(128, 1)
			for i := range 10 {
				if set>>i&1 == 1 {
					now[from+i] = 255
				}
			}
			diff(t, 1, old, now, diffByHand(1, old, now)...)
		}
	}
}

// P19.1: Diff: none, if sector is below 0; else each has that number, however great it is.
func TestDiffOfSector(t *testing.T) {
	for _, sector := range below {
		diff(t, sector, []byte{1, 2}, []byte{1, 5})
		diff(t, sector, nil, row(128, 1))
		diff(t, sector, nil, nil)
	}
	diff(t, 0, []byte{1, 2}, []byte{1, 5}, object(0, 1, 5))
	for _, sector := range above {
		diff(t, sector, []byte{1, 2, 3}, []byte{6, 2, 5}, object(sector, 0, 6), object(sector, 2, 5))
	}
	diff(t, math.MaxInt, nil, row(128, 1), api.Object{Sector: math.MaxInt, Bytes: row(128, 1)})
}
