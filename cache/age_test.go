package cache_test

import (
	"math"
	"testing"

	"purlin/api"
)

// P18.2: more than most are got: the oldest goes, each time.
func TestGetLetsGo(t *testing.T) {
	for most := 1; most <= 5; most++ {
		p := newPair(t, 12, most)
		var all []int
		for _, at := range []int{7, 0, 11, 3, 2, 9, 1, 5, 4, 6, 8, 10} {
			p.get(at, fill(at))
			all = append(all, at)
			p.held(all[max(0, len(all)-most):]...)
		}
		p.dirty()
	}
}

// P18.2: more than most are held behind a Put: the oldest that may go goes; never the one that was put.
func TestPutLetsGo(t *testing.T) {
	p := newPair(t, 9, 3)
	p.get(1, fill(1))
	p.get(2, fill(2))
	p.get(3, fill(3))
	p.put(7, fill(70), api.OK)
	p.held(2, 3, 7)
	p.put(3, fill(30), api.OK) // over what is held: no more than there were
	p.held(2, 7, 3)
	p.put(5, fill(50), api.OK)
	p.held(7, 3, 5)
	p.put(6, fill(60), api.OK) // nothing may go
	p.held(7, 3, 5, 6)
	p.put(7, fill(71), api.OK)
	p.held(3, 5, 6, 7)
	p.dirty(3, 5, 6, 7)
	p.unwind()
}

// P18.2: Pin off, when more than most are held: what is let go goes at once; on: nothing goes.
func TestPinLetsGo(t *testing.T) {
	p := newPair(t, 9, 2)
	for at := range 4 {
		p.put(at, fill(at+20), api.OK)
		p.pin(at, true, api.OK)
		p.clean(at, api.OK)
	}
	p.held(0, 1, 2, 3)
	p.pin(2, true, api.OK)
	p.held(0, 1, 2, 3)
	p.pin(2, false, api.OK) // not the oldest one, but the only one that may go
	p.held(0, 1, 3)
	p.pin(2, false, api.ErrNone)
	p.pin(3, false, api.OK) // the newest, likewise
	p.held(0, 1)
	p.pin(1, false, api.OK)
	p.held(0, 1) // no more than most
	p.get(5, fill(5))
	p.held(0, 5)
	p.get(6, fill(6))
	p.held(0, 6)
	p.pin(0, false, api.OK)
	p.get(7, fill(7))
	p.held(6, 7)
}

// P18.2: Clean, when more than most are held: what is clean then goes at once, unless it is pinned.
func TestCleanLetsGo(t *testing.T) {
	p := newPair(t, 9, 2)
	for at := range 5 {
		p.put(at, fill(at+20), api.OK)
	}
	p.pin(1, true, api.OK)
	p.held(0, 1, 2, 3, 4)
	p.clean(3, api.OK)
	p.held(0, 1, 2, 4)
	p.clean(3, api.ErrNone)
	p.clean(1, api.OK)
	p.held(0, 1, 2, 4)
	p.dirty(0, 2, 4)
	p.clean(4, api.OK)
	p.held(0, 1, 2)
	p.pin(1, false, api.OK)
	p.held(0, 2)
	p.clean(2, api.OK)
	p.clean(0, api.OK)
	p.held(0, 2) // no more than most
	p.written(3, 1, 4, 2, 0)
	p.get(3, fill(23))
	p.held(2, 3)
}

// P18.2: a Clean that the disk refuses lets nothing go.
func TestRefusedCleanLetsNothingGo(t *testing.T) {
	p := newPair(t, 9, 2)
	for at := range 4 {
		p.put(at, fill(at+20), api.OK)
	}
	p.crash()
	for at := range 4 {
		p.clean(at, api.ErrOff)
		p.held(0, 1, 2, 3)
	}
	p.unwind()
}

// P18.2: what is got goes at once, if as many as most are held already and none of these may go; its bytes are told, and it is neither pinned nor cleaned then.
func TestTheNewestGoes(t *testing.T) {
	for most := 1; most <= 3; most++ {
		p := newPair(t, 9, most)
		for at := range most {
			if at%2 == 0 {
				p.put(at, fill(at+20), api.OK)
			} else {
				p.get(at, fill(at))
				p.pin(at, true, api.OK)
			}
		}
		kept := p.m.places(false)
		for _, at := range []int{8, 5, 8, 8} {
			p.get(at, fill(at))
			p.held(kept...)
			p.pin(at, true, api.ErrNone)
			p.clean(at, api.ErrNone)
			p.drop(9, 0)
		}
		p.put(8, fill(80), api.OK) // what is put stays, as it is dirty
		p.held(append(kept, 8)...)
		p.get(5, fill(5))
		p.held(append(kept, 8)...)
		p.unwind()
	}
}

// P18.2: a Get of what is held makes it the newest, of the oldest, of one between, of the newest, of what is dirty, and pinned.
func TestGetMakesNewest(t *testing.T) {
	p := newPair(t, 9, 4)
	for at := range 4 {
		p.get(at, fill(at))
	}
	p.get(0, fill(0))
	p.held(1, 2, 3, 0)
	p.get(3, fill(3))
	p.held(1, 2, 0, 3)
	p.get(3, fill(3))
	p.held(1, 2, 0, 3)
	p.get(5, fill(5))
	p.held(2, 0, 3, 5)
	p.put(6, fill(60), api.OK)
	p.pin(3, true, api.OK)
	p.held(0, 3, 5, 6)
	p.get(3, fill(3))
	p.held(0, 5, 6, 3)
	p.get(6, fill(60))
	p.held(0, 5, 3, 6)
	p.get(0, fill(0))
	p.held(5, 3, 6, 0)
	p.get(7, fill(7))
	p.held(3, 6, 0, 7)
	p.unwind()
}

// P18.2: a Put over what is held makes it the newest, once it is clean too.
func TestPutMakesNewest(t *testing.T) {
	p := newPair(t, 9, 4)
	for at := range 4 {
		p.get(at, fill(at))
	}
	p.put(1, fill(11), api.OK)
	p.held(0, 2, 3, 1)
	p.clean(1, api.OK)
	p.held(0, 2, 3, 1)
	p.put(0, fill(10), api.OK)
	p.put(1, fill(12), api.OK)
	p.held(2, 3, 0, 1)
	p.clean(1, api.OK)
	p.clean(0, api.OK)
	p.drop(3, 3)
	p.held(1)
	p.unwind()
}

// P18.2: Pin and Clean make nothing the newest: what they let go goes by its age, ahead of what was got or put behind it.
func TestPinAndCleanKeepTheAge(t *testing.T) {
	p := newPair(t, 9, 6)
	p.get(0, fill(0))
	p.put(1, fill(11), api.OK)
	p.get(2, fill(2))
	p.put(3, fill(13), api.OK)
	p.get(4, fill(4))
	p.get(5, fill(5))
	for range 2 {
		p.pin(2, true, api.OK)
		p.pin(4, true, api.OK)
		p.pin(2, false, api.OK)
		p.held(0, 1, 2, 3, 4, 5)
	}
	p.clean(3, api.OK)
	p.clean(1, api.OK)
	p.clean(0, api.OK)
	p.held(0, 1, 2, 3, 4, 5)
	p.pin(4, false, api.OK)
	p.held(0, 1, 2, 3, 4, 5)
	for n := range 6 {
		p.drop(1, 1)
		p.held([]int{0, 1, 2, 3, 4, 5}[n+1:]...)
	}
}

// P18.2: what is refused makes nothing the newest: a Put of another length, a Clean without power.
func TestRefusedKeepsTheAge(t *testing.T) {
	p := newPair(t, 9, 3)
	p.put(0, fill(10), api.OK)
	p.get(1, fill(1))
	p.get(2, fill(2))
	p.put(1, fill(1)[1:], api.ErrArg)
	p.put(0, nil, api.ErrArg)
	p.held(0, 1, 2)
	p.crash()
	p.clean(0, api.ErrOff)
	p.getNone(5, api.ErrOff)
	p.held(0, 1, 2)
	p.boot()
	p.get(5, fill(5))
	p.held(0, 2, 5)
	p.unwind()
}

// P18.2: what is dirty, and what is pinned, does not go, though more than most are held; younger ones go in its place, the oldest first.
func TestDirtyAndPinnedStay(t *testing.T) {
	p := newPair(t, 12, 4)
	p.put(0, fill(10), api.OK)
	p.get(1, fill(1))
	p.pin(1, true, api.OK)
	p.put(2, fill(12), api.OK)
	p.pin(2, true, api.OK)
	p.get(3, fill(3))
	p.get(4, fill(4))
	p.held(0, 1, 2, 4)
	p.get(5, fill(5))
	p.held(0, 1, 2, 5)
	p.put(6, fill(16), api.OK)
	p.held(0, 1, 2, 6)
	p.put(7, fill(17), api.OK)
	p.held(0, 1, 2, 6, 7)
	p.clean(2, api.OK) // it still is pinned
	p.pin(0, false, api.OK)
	p.held(0, 1, 2, 6, 7)
	p.clean(6, api.OK)
	p.held(0, 1, 2, 7)
	p.get(8, fill(8))
	p.held(0, 1, 2, 7)
	p.pin(1, false, api.OK)
	p.held(0, 1, 2, 7)
	p.get(8, fill(8))
	p.held(0, 2, 7, 8)
	p.unwind()
}

// P18.2: Drop: of a number below 0, of 0, of fewer than may go, of as many, of more; what is dirty or pinned is passed over.
func TestDrop(t *testing.T) {
	for _, x := range []struct {
		many, want int
		held       []int
	}{
		{math.MinInt, 0, []int{0, 1, 2, 3, 4, 5, 6}},
		{-1, 0, []int{0, 1, 2, 3, 4, 5, 6}},
		{0, 0, []int{0, 1, 2, 3, 4, 5, 6}},
		{1, 1, []int{0, 2, 3, 4, 5, 6}},
		{2, 2, []int{0, 3, 4, 5, 6}},
		{3, 3, []int{0, 3, 5, 6}},
		{4, 4, []int{0, 3, 5}},
		{5, 4, []int{0, 3, 5}},
		{7, 4, []int{0, 3, 5}},
		{8, 4, []int{0, 3, 5}},
		{math.MaxInt, 4, []int{0, 3, 5}},
	} {
		p := newPair(t, 9, 7)
		for at := range 7 {
			p.get(at, fill(at))
		}
		p.drop(x.many, min(max(x.many, 0), 7))
		p.drop(7, 7-min(max(x.many, 0), 7))
		p.held()
		for at := range 7 {
			if at == 0 || at == 3 {
				p.put(at, fill(at+10), api.OK)
			} else {
				p.get(at, fill(at))
			}
		}
		p.pin(3, true, api.OK)
		p.pin(5, true, api.OK)
		p.drop(x.many, x.want)
		p.held(x.held...)
		p.dirty(0, 3)
		p.drop(x.many, min(max(x.many, 0), 4-x.want))
		p.written()
		p.unwind()
	}
}

// P18.2: Drop of none that is held.
func TestDropOfNone(t *testing.T) {
	p := newPair(t, 5, 5)
	for _, many := range []int{math.MinInt, -1, 0, 1, 5, math.MaxInt} {
		p.drop(many, 0)
		p.held()
	}
	p.put(2, fill(12), api.OK)
	p.drop(1, 0)
	p.drop(math.MaxInt, 0)
	p.held(2)
}

// P18.2: Held by age, Dirty rising: of none, of one, of many.
func TestHeldAndDirty(t *testing.T) {
	p := newPair(t, 2048, 2048)
	p.held()
	p.dirty()
	p.get(700, fill(700))
	p.held(700)
	p.dirty()
	p.put(700, fill(70), api.OK)
	p.held(700)
	p.dirty(700)
	p.drop(1, 0)
	held, dirty := []int{700}, []int{}
	for i := range 1000 {
		at := (i*1021 + 5) % 2048
		if i%3 == 0 {
			p.put(at, fill(i), api.OK)
		} else {
			p.get(at, p.m.bytesOf(at))
		}
		if at == 700 {
			held = held[1:]
		}
		held = append(held, at)
	}
	p.held(held...)
	for at := range 2048 {
		if i := p.m.place(at); i >= 0 && p.m.held[i].dirty {
			dirty = append(dirty, at)
		}
	}
	if len(dirty) < 300 {
		t.Fatalf("%d are dirty", len(dirty))
	}
	p.dirty(dirty...)
}
