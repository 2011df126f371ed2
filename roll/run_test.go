package roll_test

import (
	"bytes"
	"math"
	"math/rand"
	"slices"
	"testing"

	"purlin/api"
	"purlin/roll"
)

// draw draws objects and bytes, and holds what is told of them against what is told by hand.
type draw struct {
	r *rand.Rand
}

// number draws one about a sector's ends, and now and then a far one.
func (d draw) number() int {
	switch d.r.Intn(12) {
	case 0:
		return below[d.r.Intn(len(below))]
	case 1:
		return above[d.r.Intn(len(above))]
	case 2:
		return 120 + d.r.Intn(12)
	default:
		return d.r.Intn(128)
	}
}

// sector draws one of a few, and now and then a far one.
func (d draw) sector() int {
	if d.r.Intn(10) == 0 {
		return d.number()
	}
	return d.r.Intn(4)
}

// bytes draws up to so many bytes, many of them alike, with spare room behind.
func (d draw) bytes(most int) []byte {
	b := make([]byte, most+8)
	for i := range b {
		b[i] = byte(d.r.Intn(3))
	}
	return b[:d.r.Intn(most+1)]
}

// object draws one, that may be more often than not.
func (d draw) object() api.Object {
	o := api.Object{Sector: d.sector(), At: d.number()}
	switch d.r.Intn(5) {
	case 0:
		o.Bytes = d.bytes(140)
	case 1:
		o.Bytes = row(max(0, min(128, 128-o.At)), d.r.Intn(99)) // to the sector's end
	default:
		o.Bytes = d.bytes(9)
	}
	return o
}

// objects draws some.
func (d draw) objects(most int) []api.Object {
	var os []api.Object
	for range d.r.Intn(most + 1) {
		os = append(os, d.object())
	}
	return os
}

// P19.1: drawn objects and bytes: all calls tell what is told by hand.
func TestDrawn(t *testing.T) {
	for seed := range int64(40) {
		d := draw{rand.New(rand.NewSource(seed))}
		for range 100 {
			os, old, now, sector := d.objects(12), d.bytes(140), d.bytes(140), d.sector()
			over(t, overByHand(old, sector, os), old, sector, os...)
			sectors(t, sectorsByHand(os), os...)
			diff(t, sector, old, now, diffByHand(sector, old, now)...)
			var is []int
			for range d.r.Intn(9) {
				is = append(is, d.r.Intn(14)-1)
			}
			x, y := splitByHand(os, is)
			split(t, os, is, x, y)
			for _, o := range os {
				may(t, o, mayByHand(o))
				other := d.object()
				touch(t, o, other, touchByHand(o, other))
			}
			if t.Failed() {
				return
			}
		}
	}
}

// P19.1: how the calls hang together: what Diff tells of a sector and of what lies over it brings about the same, and no two of it touch.
func TestTogether(t *testing.T) {
	d := draw{rand.New(rand.NewSource(19))}
	for range 2000 {
		os, old := d.objects(8), d.bytes(128)
		for _, sector := range append(roll.Sectors(os...), 5, math.MaxInt) {
			now := roll.Over(old, sector, os...)
			runs := roll.Diff(sector, old, now)
			if got := roll.Over(old, sector, runs...); !bytes.Equal(got, now) {
				t.Fatalf("Over of Diff: %v, not %v", got, now)
			}
			if got := roll.Over(now, sector, roll.Diff(sector, now, old)...); !bytes.Equal(got, roll.Over(old, sector)) {
				t.Fatalf("Diff back: %v, not %v", got, old)
			}
			for i, a := range runs {
				for _, b := range runs[i+1:] {
					if roll.Touch(a, b) || a.At+len(a.Bytes) >= b.At {
						t.Fatalf("Diff: %v, %v", a, b)
					}
				}
			}
			if got := roll.Sectors(runs...); len(runs) > 0 && !slices.Equal(got, []int{sector}) {
				t.Fatalf("Sectors of Diff: %v, not %d", got, sector)
			}
		}
	}
}

// P19.1: objects of which no two touch may be laid over a sector in any order.
func TestAnyOrder(t *testing.T) {
	d := draw{rand.New(rand.NewSource(7))}
	for range 500 {
		var apart []api.Object
		for _, o := range d.objects(30) {
			if !slices.ContainsFunc(apart, func(x api.Object) bool { return roll.Touch(o, x) }) {
				apart = append(apart, o)
			}
		}
		old := d.bytes(128)
		want := overByHand(old, 2, apart)
		for range 3 {
			d.r.Shuffle(len(apart), func(i, k int) { apart[i], apart[k] = apart[k], apart[i] })
			if got := roll.Over(old, 2, apart...); !bytes.Equal(got, want) {
				t.Fatalf("Over of %v: %v, not %v", apart, got, want)
			}
			// Part by part, too.
			first, second := roll.Split(apart, 0, 2, 4, 6, 8)
			if got := roll.Over(roll.Over(old, 2, first...), 2, second...); !bytes.Equal(got, want) {
				t.Fatalf("Over in two parts: %v, not %v", got, want)
			}
		}
	}
}
