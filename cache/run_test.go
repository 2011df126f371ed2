package cache_test

import (
	"math/rand"
	"testing"

	"purlin/api"
	"purlin/cache"
	"purlin/disk"
)

// run draws calls on a cache, and what befalls its disk, and holds each one against what is told by hand.
type run struct {
	pair
	r *rand.Rand
	// Of a hundred acts so many are Get, Put, Pin, Clean, Drop; the rest befalls the disk.
	gets, puts, pins, cleans, drops int
}

// at draws a sector that there is, or one that is held, or, now and then, none.
func (x run) at() int {
	switch n := x.r.Intn(20); {
	case n == 0:
		return far[x.r.Intn(len(far))]
	case n == 1:
		return x.d.Sectors() + x.r.Intn(2)
	case n < 9 && len(x.m.held) > 0:
		return x.m.held[x.r.Intn(len(x.m.held))].at
	}
	return x.r.Intn(x.d.Sectors())
}

// bytes draws a sector, or, now and then, bytes that are none.
func (x run) bytes() []byte {
	if x.r.Intn(12) == 0 {
		return make([]byte, lengths[x.r.Intn(len(lengths))])
	}
	return fill(x.r.Intn(1 << 20))
}

// keep draws which of the writes that wait last.
func (x run) keep() []bool {
	keep := make([]bool, x.r.Intn(4))
	for i := range keep {
		keep[i] = x.r.Intn(2) == 0
	}
	return keep
}

// befall lets something befall both disks.
func (x run) befall() {
	switch x.r.Intn(6) {
	case 0:
		x.crash(x.keep()...)
	case 1:
		x.arm(x.r.Intn(5), x.keep()...)
	case 2:
		x.d.Flush()
		x.m.d.Flush()
	default:
		x.boot()
	}
}

// act does one thing.
func (x run) act() {
	x.t.Helper()
	n, at := x.r.Intn(100), x.at()
	for i, share := range []int{x.gets, x.puts, x.pins, x.cleans, x.drops, 100} {
		if n -= share; n >= 0 {
			continue
		}
		switch i {
		case 0:
			x.got(at)
		case 1:
			x.putTold(at, x.bytes())
		case 2:
			x.pinTold(at, x.r.Intn(2) == 0)
		case 3:
			x.cleanTold(at)
		case 4:
			x.dropTold(x.r.Intn(6) - 1)
		default:
			x.befall()
		}
		return
	}
}

// P18.1, P18.2: long rows of calls: over disks of few sectors and of many, of which few or many are held, with much that is dirty or pinned, and with little.
func TestRuns(t *testing.T) {
	mixes := []run{
		{gets: 40, puts: 20, pins: 15, cleans: 15, drops: 5},
		{gets: 60, puts: 5, pins: 5, cleans: 10, drops: 10},
		{gets: 15, puts: 45, pins: 10, cleans: 15, drops: 5},
		{gets: 25, puts: 15, pins: 45, cleans: 10, drops: 5},
		{gets: 15, puts: 25, pins: 5, cleans: 45, drops: 5},
		{gets: 25, puts: 25, pins: 10, cleans: 20, drops: 0},
	}
	seed := int64(0)
	for _, x := range mixes {
		for _, size := range [][2]int{{1, 1}, {2, 1}, {3, 2}, {5, 3}, {8, 1}, {8, 4}, {8, 8}, {20, 6}, {20, 50}, {64, 30}} {
			seed++
			x.pair, x.r = newPair(t, size[0], size[1]), rand.New(rand.NewSource(seed))
			for range 600 {
				x.act()
				x.same()
			}
			x.unwind()
		}
	}
}

// P18.1, P18.2: many short rows of calls, each of which is unwound, so that what is dirty, what is pinned, and all ages are seen.
func TestShortRuns(t *testing.T) {
	r := rand.New(rand.NewSource(18))
	for range 2000 {
		sectors := 1 + r.Intn(10)
		x := run{pair: newPair(t, sectors, 1+r.Intn(sectors+1)), r: r, gets: 10 + r.Intn(30), puts: r.Intn(25), pins: r.Intn(20), cleans: r.Intn(15), drops: r.Intn(6)}
		for range r.Intn(40) {
			x.act()
		}
		x.same()
		x.unwind()
	}
}

// do does one of the acts that there are for some sectors: five for each of them, and a Drop of one.
func (p pair) do(act int) {
	p.t.Helper()
	at := act / 5
	if at == p.d.Sectors() {
		p.dropTold(1)
		return
	}
	switch act % 5 {
	case 0:
		p.got(at)
	case 1:
		p.put(at, fill(len(p.m.held)+7*at+100), api.OK)
	case 2:
		p.cleanTold(at)
	default:
		p.pinTold(at, act%5 == 3)
	}
}

// P18.1, P18.2: every row of calls of four on three sectors, and of five on two, of which one is held, or two.
func TestEachRow(t *testing.T) {
	for _, x := range []struct{ sectors, long, most int }{{3, 4, 1}, {3, 4, 2}, {2, 5, 1}} {
		acts := 5*x.sectors + 1
		rows := 1
		for range x.long {
			rows *= acts
		}
		for row := range rows {
			p := newPair(t, x.sectors, x.most)
			for n, left := 0, row; n < x.long; n++ {
				p.do(left % acts)
				left /= acts
			}
			p.same()
			if row%5 == 0 {
				p.unwind()
			}
		}
	}
}

// P18.2: great caches, most of what they hold dirty or pinned: what goes is found without going through all of it each time.
func TestGreat(t *testing.T) {
	d := disk.New(2048)
	for _, most := range []int{1, 1000, 2047, 5000} {
		c := cache.New(d, most)
		for at := range 1500 {
			c.Put(at, fill(at))
			c.Pin(at, at%2 == 0)
		}
		for n := range 100000 {
			at := 1500 + n*37%548
			if b, code := c.Get(at); code != api.OK || b[0] != 0 {
				t.Fatalf("Get(%d): %d", at, code)
			}
		}
		for n := range 100000 {
			if code := c.Put(n*31%1500, fill(n)); code != api.OK {
				t.Fatalf("Put: %d", code)
			}
		}
		for at := range 1500 {
			if code := c.Clean(at); code != api.OK {
				t.Fatalf("Clean(%d): %d", at, code)
			}
			c.Pin(at, false)
		}
		if n := len(c.Held()); n != min(most, 2048) || len(c.Dirty()) != 0 {
			t.Fatalf("of %d %d are held", most, n)
		}
		if d.Flush() != api.OK {
			t.Fatal("no Flush")
		}
		for at := range 548 {
			d.Write(1500+at, make([]byte, api.SectorSize))
		}
	}
	if d.Flushes() != 4 || len(d.Writes()) != 4*(1500+548) {
		t.Errorf("%d writes", len(d.Writes()))
	}
}
