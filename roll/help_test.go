package roll_test

import (
	"bytes"
	"math"
	"slices"
	"testing"

	"purlin/api"
	"purlin/roll"
)

// size is how many bytes a sector has.
const size = 128

// below are numbers that no Sector and no At may be: all that is below 0.
var below = []int{-1, -2, -7, -127, -128, -129, -256, math.MinInt32, -1 << 32, -1<<32 + 1, -1 << 62, math.MinInt + 129, math.MinInt + 128, math.MinInt + 127, math.MinInt + 1, math.MinInt}

// above are numbers as great as an int can be, and such as fewer bits would make small ones; a Sector may be each of them, an At none.
var above = []int{2048, 65535, 65536, 65537, math.MaxInt32, 1 << 31, 1<<31 + 1, 1<<32 - 1, 1 << 32, 1<<32 + 1, 1 << 48, 1 << 62, math.MaxInt - 129, math.MaxInt - 128, math.MaxInt - 127, math.MaxInt - 1, math.MaxInt}

// object makes one of those bytes.
func object(sector, at int, b ...byte) api.Object {
	return api.Object{Sector: sector, At: at, Bytes: b}
}

// long makes one of n bytes, unlike their neighbours.
func long(sector, at, n int) api.Object {
	return object(sector, at, row(n, at+sector)...)
}

// row tells n bytes, none of them 0, each unlike the one ahead; other ones for another from.
func row(n, from int) []byte {
	b := make([]byte, n)
	for i := range b {
		b[i] = byte(1 + (uint(from)*37+uint(i))%251)
	}
	return b
}

// filled tells a sector that begins with b, with zeros behind.
func filled(b ...byte) []byte {
	return append(slices.Clone(b), make([]byte, size-len(b))...)
}

// set tells b with other bytes from at on.
func set(b []byte, at int, other ...byte) []byte {
	b = slices.Clone(b)
	copy(b[at:], other)
	return b
}

// same tells whether lists of objects are alike.
func same(a, b []api.Object) bool {
	return slices.EqualFunc(a, b, func(x, y api.Object) bool {
		return x.Sector == y.Sector && x.At == y.At && bytes.Equal(x.Bytes, y.Bytes)
	})
}

// What follows up to the checks is a second reading of the chapter, by its words, a byte at a time.

// mayByHand tells what May should tell.
func mayByHand(o api.Object) bool {
	if o.Sector < 0 || len(o.Bytes) < 1 {
		return false
	}
	for at := range size {
		if at == o.At {
			return len(o.Bytes) <= size-at
		}
	}
	return false
}

// at tells the byte of o at a place of its sector; false, if it has none there. It may be.
func at(o api.Object, place int) (byte, bool) {
	for k, b := range o.Bytes {
		if o.At+k == place {
			return b, true
		}
	}
	return 0, false
}

// byteOf tells the byte of b at a place, or 0 behind b.
func byteOf(b []byte, place int) byte {
	if place < len(b) {
		return b[place]
	}
	return 0
}

// overByHand tells what Over should tell: of each place the byte of the last object that has it.
func overByHand(old []byte, sector int, os []api.Object) []byte {
	var out []byte
	for place := range size {
		told := byteOf(old, place)
		for _, o := range os {
			if mayByHand(o) && o.Sector == sector {
				if b, there := at(o, place); there {
					told = b
				}
			}
		}
		out = append(out, told)
	}
	return out
}

// sectorsByHand tells what Sectors should tell.
func sectorsByHand(os []api.Object) []int {
	var all []int
	for _, o := range os {
		if mayByHand(o) && !slices.Contains(all, o.Sector) {
			all = append(all, o.Sector)
		}
	}
	slices.Sort(all)
	return all
}

// diffByHand tells what Diff should tell: each byte that differs lengthens the run that ends ahead of it, or begins one.
func diffByHand(sector int, old, now []byte) []api.Object {
	var os []api.Object
	for place := range size {
		b := byteOf(now, place)
		if sector < 0 || b == byteOf(old, place) {
			continue
		}
		if n := len(os); n > 0 && os[n-1].At+len(os[n-1].Bytes) == place {
			os[n-1].Bytes = append(os[n-1].Bytes, b)
		} else {
			os = append(os, object(sector, place, b))
		}
	}
	return os
}

// touchByHand tells what Touch should tell.
func touchByHand(a, b api.Object) bool {
	if !mayByHand(a) || !mayByHand(b) || a.Sector != b.Sector {
		return false
	}
	for place := range size {
		_, first := at(a, place)
		_, second := at(b, place)
		if first && second {
			return true
		}
	}
	return false
}

// splitByHand tells what Split should tell.
func splitByHand(os []api.Object, is []int) ([]api.Object, []api.Object) {
	var some, others []api.Object
	for i, o := range os {
		if slices.Contains(is, i) {
			some = append(some, o)
		} else {
			others = append(others, o)
		}
	}
	return some, others
}

// may asks that May tells this.
func may(t *testing.T, o api.Object, want bool) {
	t.Helper()
	if got := mayByHand(o); got != want {
		t.Fatalf("May(%d, %d, %d bytes): by hand %t", o.Sector, o.At, len(o.Bytes), got)
	}
	if got := roll.May(o); got != want {
		t.Errorf("May(%d, %d, %d bytes): %t", o.Sector, o.At, len(o.Bytes), got)
	}
}

// over asks that Over tells these bytes.
func over(t *testing.T, want, old []byte, sector int, os ...api.Object) {
	t.Helper()
	if got := overByHand(old, sector, os); !bytes.Equal(got, want) {
		t.Fatalf("Over(%v, %d, %v): by hand %v, not %v", old, sector, os, got, want)
	}
	if got := roll.Over(old, sector, os...); !bytes.Equal(got, want) {
		t.Errorf("Over(%v, %d, %v): %v, not %v", old, sector, os, got, want)
	}
}

// sectors asks that Sectors tells these.
func sectors(t *testing.T, want []int, os ...api.Object) {
	t.Helper()
	if got := sectorsByHand(os); !slices.Equal(got, want) {
		t.Fatalf("Sectors(%v): by hand %v, not %v", os, got, want)
	}
	if got := roll.Sectors(os...); !slices.Equal(got, want) {
		t.Errorf("Sectors(%v): %v, not %v", os, got, want)
	}
}

// diff asks that Diff tells these, and that they make now of old.
func diff(t *testing.T, sector int, old, now []byte, want ...api.Object) {
	t.Helper()
	if got := diffByHand(sector, old, now); !same(got, want) {
		t.Fatalf("Diff(%d, %v, %v): by hand %v, not %v", sector, old, now, got, want)
	}
	got := roll.Diff(sector, old, now)
	if !same(got, want) {
		t.Errorf("Diff(%d, %v, %v): %v, not %v", sector, old, now, got, want)
	}
	for _, o := range got {
		may(t, o, true)
	}
	if sector >= 0 {
		over(t, overByHand(now, sector, nil), old, sector, got...)
	}
}

// touch asks that Touch tells this, either way round.
func touch(t *testing.T, a, b api.Object, want bool) {
	t.Helper()
	if got := touchByHand(a, b); got != want {
		t.Fatalf("Touch(%v, %v): by hand %t", a, b, got)
	}
	if got := roll.Touch(a, b); got != want {
		t.Errorf("Touch(%v, %v): %t", a, b, got)
	}
	if got := roll.Touch(b, a); got != want {
		t.Errorf("Touch(%v, %v): %t", b, a, got)
	}
}

// split asks that Split tells these.
func split(t *testing.T, os []api.Object, is []int, some, others []api.Object) {
	t.Helper()
	if a, b := splitByHand(os, is); !same(a, some) || !same(b, others) {
		t.Fatalf("Split(%v, %v): by hand %v, %v, not %v, %v", os, is, a, b, some, others)
	}
	if a, b := roll.Split(os, is...); !same(a, some) || !same(b, others) {
		t.Errorf("Split(%v, %v): %v, %v, not %v, %v", os, is, a, b, some, others)
	}
}
