package cache_test

import (
	"math"
	"slices"
	"testing"

	"purlin/api"
	"purlin/cache"
	"purlin/disk"
)

// P18.1, P18.2: the example of the chapter.
func TestExample(t *testing.T) {
	p := newPair(t, 5, 2)
	p.put(3, fill(77), api.OK)
	p.held(3)
}

// P18.1: New: nil without a disk, whatever most is, and of a most below 1.
func TestNewNone(t *testing.T) {
	for _, most := range []int{math.MinInt, -2048, -1, 0, 1, 2, 2048, math.MaxInt} {
		if cache.New(nil, most) != nil {
			t.Errorf("New without a disk, %d: no nil", most)
		}
	}
	for _, most := range []int{math.MinInt, math.MinInt32, -1 << 32, -2048, -3, -2, -1, 0} {
		if cache.New(disk.New(3), most) != nil {
			t.Errorf("New of %d: no nil", most)
		}
	}
}

// P18.1: New: of 1, of fewer than the disk has sectors, of as many, of more: nothing is held, and as many are as that tells.
func TestNew(t *testing.T) {
	for _, sectors := range []int{1, 2, 9, 2048} {
		for _, most := range []int{1, 2, 3, 8, 9, 10, 2047, 2048, 2049, math.MaxInt32, math.MaxInt} {
			p := newPair(t, sectors, most)
			p.held()
			p.dirty()
			var all []int
			for at := range sectors {
				p.get(at, fill(at))
				all = append(all, at)
			}
			p.held(all[max(0, len(all)-most):]...)
			p.dirty()
			p.written()
		}
	}
}

// P18.1: New over a disk without power: nothing is asked of it; what is put is held.
func TestNewWithoutPower(t *testing.T) {
	d := newDisk(t, 4)
	d.Crash()
	c := cache.New(d, 2)
	if c == nil {
		t.Fatal("New told nil")
	}
	if code := c.Put(3, fill(9)); code != api.OK || !slices.Equal(c.Held(), []int{3}) {
		t.Errorf("Put(3): %d, and held are %v", code, c.Held())
	}
}

// P18.1: Get of what is not held: the disk's bytes, firm or not, of the first one, the last one, and each between; they are held, and not dirty, and the disk is not written.
func TestGet(t *testing.T) {
	for _, at := range []int{0, 8, 1, 4, 7} {
		p := newPair(t, 9, 3)
		p.get(at, fill(at))
		p.held(at)
		p.dirty()
		p.written()
	}
	p := newPair(t, 9, 9)
	for _, d := range []*disk.Disk{p.d, p.m.d} {
		d.Write(2, fill(100))
		d.Write(3, fill(101))
		d.Flush()
		d.Write(3, fill(102))
		d.Write(8, fill(103))
	}
	p.get(2, fill(100))
	p.get(3, fill(102))
	p.get(8, fill(103))
	p.get(1, fill(1))
	p.held(2, 3, 8, 1)
	p.dirty()
}

// P18.1: Get of what the disk has not: its code; what is held stays as it was.
func TestGetOfNoSector(t *testing.T) {
	for _, sectors := range []int{1, 3, 7} {
		p := newPair(t, sectors, 2)
		p.getNone(-1, api.ErrArg)
		p.getNone(sectors, api.ErrArg)
		p.held()
		p.put(0, fill(50), api.OK)
		p.get(sectors-1, p.m.bytesOf(sectors-1))
		kept := p.m.places(false)
		for _, at := range append(far, sectors, sectors+1) {
			p.getNone(at, api.ErrArg)
			p.held(kept...)
			p.dirty(0)
		}
		p.written()
		p.unwind()
	}
}

// P18.1: Get of what is not held, without power: the disk's code, also of what is no sector, as the disk names it first; what is held stays as it was.
func TestGetWithoutPower(t *testing.T) {
	p := newPair(t, 6, 3)
	p.get(2, fill(2))
	p.put(4, fill(60), api.OK)
	p.get(1, fill(1))
	p.crash()
	for _, at := range append(far, 0, 3, 5, 6) {
		p.getNone(at, api.ErrOff)
		p.held(2, 4, 1)
		p.dirty(4)
	}
	p.boot()
	p.getNone(6, api.ErrArg)
	p.get(5, fill(5))
	p.held(4, 1, 5)
	p.unwind()
}

// P18.1: Get of what is held does not ask the disk: it tells what was put, and what was read once, whatever the disk has, and without power too.
func TestGetOfHeld(t *testing.T) {
	p := newPair(t, 6, 4)
	p.put(0, fill(70), api.OK)
	p.put(5, fill(71), api.OK)
	p.get(2, fill(2))
	// Nobody but the cache should write the disk; so it is seen that it is not asked.
	p.d.Write(2, fill(99))
	p.m.d.Write(2, fill(99))
	for round := range 3 {
		p.get(0, fill(70))
		p.get(2, fill(2))
		p.get(5, fill(71))
		p.held(0, 2, 5)
		p.dirty(0, 5)
		switch round {
		case 0:
			p.crash()
		case 1:
			p.boot()
		}
	}
	p.reads()
	if b, _ := p.d.Read(0); !slices.Equal(b, fill(0)) {
		t.Error("what was put stands on the disk")
	}
}

// P18.1: Get of what was held and is no more: the disk is asked anew, and tells what was cleaned, or its code.
func TestGetOfWhatWent(t *testing.T) {
	p := newPair(t, 6, 1)
	p.put(3, fill(80), api.OK)
	p.clean(3, api.OK)
	p.get(1, fill(1))
	p.held(1)
	p.get(3, fill(80))
	p.held(3)
	p.drop(1, 1)
	p.held()
	p.get(3, fill(80))
	p.get(2, fill(2))
	p.crash()
	p.getNone(3, api.ErrOff)
	p.getNone(1, api.ErrOff)
	p.get(2, fill(2))
	p.held(2)
	p.boot()
	// What was cleaned was not flushed.
	p.get(3, fill(3))
	p.held(3)
	p.written(3)
}

// P18.1: Put: it is held, and dirty, and got; the disk is not written. Over what is held and over what is not, over what is dirty and what is pinned.
func TestPut(t *testing.T) {
	p := newPair(t, 9, 5)
	for i, at := range []int{0, 8, 4} {
		p.put(at, fill(30+i), api.OK)
		p.get(at, fill(30+i))
	}
	p.held(0, 8, 4)
	p.dirty(0, 4, 8)
	for i, at := range []int{0, 8, 4} { // what is dirty
		p.put(at, fill(40+i), api.OK)
		p.get(at, fill(40+i))
	}
	p.get(2, fill(2))
	p.put(2, fill(50), api.OK) // what is not
	p.get(2, fill(50))
	p.held(0, 8, 4, 2)
	p.dirty(0, 2, 4, 8)
	p.get(5, fill(5))
	p.pin(5, true, api.OK)
	p.put(5, fill(51), api.OK) // what is pinned
	p.get(5, fill(51))
	p.dirty(0, 2, 4, 5, 8)
	p.written()
	p.reads()
	p.clean(5, api.OK)
	p.drop(9, 0) // it still is pinned
	p.held(0, 8, 4, 2, 5)
	p.written(5)
	p.unwind()
}

// P18.1: Put of the bytes that are held, and that the disk has: dirty all the same.
func TestPutOfTheSame(t *testing.T) {
	p := newPair(t, 4, 4)
	p.put(1, fill(1), api.OK)
	p.get(2, fill(2))
	p.put(2, fill(2), api.OK)
	p.dirty(1, 2)
	p.clean(1, api.OK)
	p.put(1, fill(1), api.OK)
	p.dirty(1, 2)
	p.clean(2, api.OK)
	p.clean(1, api.OK)
	p.dirty()
	p.written(1, 2, 1)
}

// P18.1: Put at a place that there is not, of a length that is none, of both: ErrArg; what is held, the bytes of it, its age, and whether it is dirty or pinned, stays as it was.
func TestPutWrong(t *testing.T) {
	for _, sectors := range []int{1, 4} {
		p := newPair(t, sectors, 3)
		wrong := func() {
			t.Helper()
			kept, dirty := p.m.places(false), p.m.places(true)
			for _, at := range append(far, sectors, sectors+1) {
				p.put(at, fill(1), api.ErrArg)
				p.put(at, nil, api.ErrArg)
				p.put(at, make([]byte, api.SectorSize-1), api.ErrArg)
				p.put(at, make([]byte, api.SectorSize+1), api.ErrArg)
			}
			for at := range sectors {
				p.put(at, nil, api.ErrArg)
				for _, n := range lengths {
					p.put(at, make([]byte, n), api.ErrArg)
					p.put(at, make([]byte, n, 2*api.SectorSize+n), api.ErrArg)
				}
			}
			p.held(kept...)
			p.dirty(dirty...)
			p.written()
		}
		wrong()
		p.put(0, fill(90), api.OK)
		wrong()
		p.get(sectors-1, p.m.bytesOf(sectors-1))
		wrong()
		p.pin(sectors-1, true, api.OK)
		wrong()
		p.get(0, fill(90))
		wrong()
		p.crash()
		wrong()
		p.unwind()
	}
}

// P18.1: Put without power: it is held, and dirty, as the disk is not written.
func TestPutWithoutPower(t *testing.T) {
	p := newPair(t, 5, 2)
	p.crash()
	p.put(0, fill(20), api.OK)
	p.put(4, fill(21), api.OK)
	p.put(0, fill(22), api.OK)
	p.put(5, fill(23), api.ErrArg)
	p.get(0, fill(22))
	p.get(4, fill(21))
	p.held(0, 4)
	p.dirty(0, 4)
	p.boot()
	p.unwind()
}

// P18.1: Put is no write of the disk: a trap for its power waits for a Clean.
func TestPutIsNoWrite(t *testing.T) {
	p := newPair(t, 5, 1)
	p.arm(0)
	for at := range 5 {
		p.put(at, fill(at+10), api.OK)
		p.pin(at, true, api.OK)
		p.pin(at, false, api.OK)
		p.get(at, fill(at+10))
	}
	p.drop(5, 0)
	if !p.d.On() {
		t.Fatal("the power went")
	}
	p.written()
	p.clean(0, api.ErrOff)
	if p.d.On() {
		t.Fatal("the power stayed")
	}
	p.dirty(0, 1, 2, 3, 4)
}

// bytesOf tells the bytes that a sector has by hand: those held, else the disk's.
func (m *byHand) bytesOf(at int) []byte {
	if i := m.place(at); i >= 0 {
		return m.held[i].bytes
	}
	b, _ := m.d.Read(at)
	return b
}
