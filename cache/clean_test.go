package cache_test

import (
	"testing"

	"purlin/api"
)

// P18.1: Pin of what is not held: ErrNone, on and off, as it never was, as it was dropped, or as the disk has no such sector; with power and without.
func TestPinOfNone(t *testing.T) {
	p := newPair(t, 5, 2)
	p.put(1, fill(10), api.OK)
	p.get(2, fill(2))
	p.get(3, fill(3)) // 2 is held no more
	for range 2 {
		for _, at := range append(far, 0, 2, 4, 5, 6) {
			p.pin(at, true, api.ErrNone)
			p.pin(at, false, api.ErrNone)
			p.held(1, 3)
		}
		p.crash()
	}
	p.boot()
	// What was refused is not kept.
	p.clean(1, api.OK)
	p.drop(2, 2)
	p.get(0, fill(0))
	p.get(4, fill(4))
	p.drop(2, 2)
	p.held()
}

// P18.1: Pin on and off, once and twice: what is pinned does not go, however often it was pinned; what is let go goes, however often it was.
func TestPin(t *testing.T) {
	p := newPair(t, 9, 2)
	p.get(4, fill(4))
	p.pin(4, false, api.OK)
	p.drop(9, 1)
	p.get(4, fill(4))
	for range 3 {
		p.pin(4, true, api.OK)
		p.drop(9, 0)
	}
	p.held(4)
	for range 3 {
		p.pin(4, false, api.OK)
		p.held(4)
	}
	p.drop(9, 1)
	p.held()
	p.pin(4, true, api.ErrNone)
	p.get(4, fill(4)) // what went is pinned no more
	p.drop(9, 1)
	p.dirty()
	p.written()
}

// P18.1: Pin of what is dirty: it stays dirty; it goes when it is both clean and let go, whichever comes first.
func TestPinOfDirty(t *testing.T) {
	for _, cleanFirst := range []bool{false, true} {
		p := newPair(t, 4, 4)
		p.put(2, fill(12), api.OK)
		p.pin(2, true, api.OK)
		p.dirty(2)
		p.drop(4, 0)
		if cleanFirst {
			p.clean(2, api.OK)
			p.dirty()
		} else {
			p.pin(2, false, api.OK)
			p.dirty(2)
		}
		p.drop(4, 0)
		p.get(2, fill(12))
		p.held(2)
		if cleanFirst {
			p.pin(2, false, api.OK)
		} else {
			p.clean(2, api.OK)
		}
		p.written(2)
		p.drop(4, 1)
		p.held()
		p.get(2, fill(12))
	}
}

// P18.1: Pin without power.
func TestPinWithoutPower(t *testing.T) {
	p := newPair(t, 4, 4)
	p.get(2, fill(2))
	p.crash()
	p.pin(2, true, api.OK)
	p.drop(1, 0)
	p.pin(2, false, api.OK)
	p.drop(1, 1)
}

// P18.1, R6: Clean of what is not held: ErrNone, as it never was, as it was dropped, or as the disk has no such sector; without power too.
func TestCleanOfNone(t *testing.T) {
	p := newPair(t, 5, 2)
	p.put(1, fill(10), api.OK)
	p.get(2, fill(2))
	p.get(3, fill(3)) // 2 is held no more
	for range 2 {
		for _, at := range append(far, 0, 2, 4, 5, 6) {
			p.clean(at, api.ErrNone)
			p.held(1, 3)
			p.dirty(1)
			p.written()
		}
		p.crash()
	}
	p.unwind()
}

// P18.1: Clean of what is not dirty: nothing; the disk is not written, and not asked for its power.
func TestCleanOfClean(t *testing.T) {
	p := newPair(t, 5, 5)
	p.get(0, fill(0))
	p.get(4, fill(4))
	p.pin(4, true, api.OK)
	p.put(2, fill(12), api.OK)
	p.clean(2, api.OK)
	p.arm(0)
	for round := range 2 {
		for _, at := range []int{0, 4, 2, 0} {
			p.clean(at, api.OK)
			p.held(0, 4, 2)
			p.dirty()
			p.written(2)
		}
		if p.d.On() != (round == 0) {
			t.Fatal("the power went")
		}
		p.crash(true)
	}
	p.unwind()
}

// P18.1: Clean of what is dirty: it is written, once, and not flushed; it is held, and not dirty.
func TestClean(t *testing.T) {
	p := newPair(t, 6, 6)
	for _, at := range []int{5, 0, 3} {
		p.put(at, fill(at+20), api.OK)
		p.put(at, fill(at+30), api.OK)
	}
	for i, at := range []int{3, 5, 0} {
		p.clean(at, api.OK)
		p.clean(at, api.OK)
		p.written([]int{3, 5, 0}[:i+1]...)
		p.dirty([][]int{{0, 5}, {0}, nil}[i]...)
		p.held(5, 0, 3)
		p.get(at, fill(at+30))
		b, code := p.d.Read(at)
		if code != api.OK || string(b) != string(fill(at+30)) {
			t.Fatalf("sector %d of the disk: %v, %d", at, b, code)
		}
		if firm := p.d.Image()[at]; string(firm) != string(fill(at)) {
			t.Fatalf("sector %d is firm: %v", at, firm)
		}
		p.get(5, p.m.bytesOf(5))
		p.get(0, p.m.bytesOf(0))
		p.get(3, p.m.bytesOf(3))
	}
	p.put(0, fill(99), api.OK)
	p.dirty(0)
	p.clean(0, api.OK)
	p.written(3, 5, 0, 0)
	p.unwind()
}

// P18.1: Clean, without power: the disk's code, and it stays dirty; it is written when the power comes again.
func TestCleanWithoutPower(t *testing.T) {
	p := newPair(t, 5, 2)
	p.put(1, fill(11), api.OK)
	p.put(3, fill(13), api.OK)
	p.put(4, fill(14), api.OK)
	p.clean(3, api.OK)
	p.held(1, 4)
	p.crash()
	for range 3 {
		p.clean(1, api.ErrOff)
		p.clean(4, api.ErrOff)
		p.held(1, 4)
		p.dirty(1, 4)
	}
	p.drop(2, 0)
	p.written(3)
	p.boot()
	p.get(1, fill(11))
	p.clean(1, api.OK)
	p.dirty(4)
	p.written(3, 1)
	p.unwind()
}

// P18.1: Clean, at whose write the power goes: the disk's code, and that one stays dirty; those that were cleaned ahead of it are not dirty, whether they last or not.
func TestCleanAtTheFall(t *testing.T) {
	for after := range 4 {
		for _, keep := range [][]bool{nil, {true}, {false, true}} {
			p := newPair(t, 6, 6)
			for at := range 4 {
				p.put(at, fill(40+at), api.OK)
			}
			p.arm(after, keep...)
			var left []int
			for at := range 4 {
				if at < after {
					p.clean(at, api.OK)
					continue
				}
				p.clean(at, api.ErrOff)
				left = append(left, at)
				if p.d.On() {
					t.Fatal("the power stayed")
				}
			}
			p.dirty(left...)
			p.boot()
			p.reads()
			for _, at := range left {
				p.get(at, fill(40+at))
				p.clean(at, api.OK)
				p.clean(at, api.OK)
			}
			p.dirty()
			p.reads()
			p.unwind()
		}
	}
}

// P18.1: Clean of what is pinned: it is written, and stays pinned.
func TestCleanOfPinned(t *testing.T) {
	p := newPair(t, 5, 1)
	p.get(3, fill(3))
	p.pin(3, true, api.OK)
	p.put(3, fill(33), api.OK)
	p.clean(3, api.OK)
	p.written(3)
	p.dirty()
	p.get(2, fill(2))
	p.held(3)
	p.drop(1, 0)
	p.pin(3, false, api.OK)
	p.held(3)
	p.drop(1, 1)
}
