package cache_test

import (
	"bytes"
	"math"
	"slices"
	"sync"
	"testing"

	"purlin/api"
	"purlin/cache"
	"purlin/disk"
)

// R3: every method of a nil cache tells ErrNil, ahead of all else, or zero values; a New without a disk is one.
func TestNil(t *testing.T) {
	var z *cache.Cache
	for _, c := range []*cache.Cache{z, cache.New(nil, 3), cache.New(disk.New(3), 0)} {
		if c != nil {
			t.Fatal("no nil cache")
		}
		for _, at := range append(far, 0, 1, 7) {
			if b, code := c.Get(at); len(b) != 0 || code != api.ErrNil {
				t.Errorf("Get(%d): %v, %d", at, b, code)
			}
			for _, b := range [][]byte{nil, fill(1), fill(1)[1:]} {
				if code := c.Put(at, b); code != api.ErrNil {
					t.Errorf("Put(%d): %d", at, code)
				}
			}
			for _, on := range []bool{false, true} {
				if code := c.Pin(at, on); code != api.ErrNil {
					t.Errorf("Pin(%d): %d", at, code)
				}
			}
			if code := c.Clean(at); code != api.ErrNil {
				t.Errorf("Clean(%d): %d", at, code)
			}
			if n := c.Drop(at); n != 0 {
				t.Errorf("Drop(%d): %d", at, n)
			}
		}
		if len(c.Held()) != 0 || len(c.Dirty()) != 0 {
			t.Errorf("Held: %v, Dirty: %v", c.Held(), c.Dirty())
		}
	}
}

// R1: a cache that no call made, and one over a disk that none made, do not panic either.
func TestZero(t *testing.T) {
	for _, c := range []*cache.Cache{{}, cache.New(&disk.Disk{}, 2)} {
		for _, at := range append(far, 0, 1) {
			c.Get(at)
			c.Put(at, fill(1))
			c.Put(at, nil)
			c.Pin(at, true)
			c.Clean(at)
			c.Drop(at)
		}
		if len(c.Held()) != 0 || len(c.Dirty()) != 0 {
			t.Errorf("Held: %v, Dirty: %v", c.Held(), c.Dirty())
		}
	}
}

// scribble writes all over bytes, over their spare room too.
func scribble(b []byte) {
	b = b[:cap(b)]
	for i := range b {
		b[i] ^= 0xFF
	}
}

// R4: the bytes that are handed in to Put stay as they are, with their spare room, and what lies ahead of them.
func TestHandedInStays(t *testing.T) {
	p := newPair(t, 6, 2)
	whole := slices.Concat(fill(1), fill(2), fill(3))
	kept := bytes.Clone(whole)
	b := whole[api.SectorSize : 2*api.SectorSize]
	for at := range 6 {
		p.put(at, b, api.OK)
		p.put(at, b[:api.SectorSize-1], api.ErrArg)
		p.put(at, b[:api.SectorSize+1], api.ErrArg)
		p.put(at+6, b, api.ErrArg)
		p.get(at, fill(2))
		p.clean(at, api.OK)
		p.get(at, fill(2))
		p.put(at, fill(9), api.OK)
		p.clean(at, api.OK)
	}
	p.drop(6, 2)
	if !bytes.Equal(whole, kept) {
		t.Error("what was handed in was changed")
	}
}

// R4: the bytes that are handed in to Put are not kept: what befalls them behind it reaches neither what is held nor what is written.
func TestHandedInIsNotKept(t *testing.T) {
	p := newPair(t, 6, 6)
	b := append(fill(2), fill(3)...)
	for _, over := range []bool{false, true} {
		copy(b, fill(2))
		p.put(0, b[:api.SectorSize], api.OK)
		p.put(1, b[:api.SectorSize], api.OK)
		scribble(b)
		p.get(0, fill(2))
		p.clean(0, api.OK)
		p.get(1, fill(2))
		p.clean(1, api.OK)
		p.reads()
		if got, _ := p.d.Read(1); !bytes.Equal(got, fill(2)) {
			t.Fatalf("held already: %v: written were %v", over, got)
		}
	}
}

// R4: what Get answers shares no memory with another answer, with what is held, dirty or not, nor with the disk.
func TestBytesShareNothing(t *testing.T) {
	p := newPair(t, 6, 3)
	p.put(0, fill(10), api.OK)
	p.get(1, fill(1))
	p.put(2, fill(12), api.OK)
	p.clean(2, api.OK)
	for at, want := range [][]byte{fill(10), fill(1), fill(12), fill(3)} { // the last one is held no more at the end of its own Get
		if at == 3 {
			p.put(1, fill(1), api.OK)
			p.put(2, fill(12), api.OK)
		}
		kept, _ := p.got(at)
		kept = bytes.Clone(kept)
		first, _ := p.c.Get(at)
		second, _ := p.c.Get(at)
		p.m.get(at)
		_ = append(first, 1, 2, 3)
		scribble(first)
		if !bytes.Equal(second, want) || !bytes.Equal(kept, want) {
			t.Fatalf("Get(%d): two answers share memory", at)
		}
		p.get(at, want)
		p.reads()
		scribble(second)
		p.get(at, want)
		p.reads()
	}
	p.unwind()
}

// R4: what Get answered stays as it is, whatever is done behind it.
func TestAnswersStay(t *testing.T) {
	p := newPair(t, 4, 2)
	p.put(0, fill(10), api.OK)
	a, _ := p.c.Get(0)
	b, _ := p.c.Get(1)
	p.m.get(0)
	p.m.get(1)
	held, dirty := p.c.Held(), p.c.Dirty()
	p.put(0, fill(20), api.OK)
	p.put(1, fill(21), api.OK)
	p.clean(0, api.OK)
	p.clean(1, api.OK)
	p.get(2, fill(2))
	p.get(3, fill(3))
	p.get(0, fill(20))
	if !bytes.Equal(a, fill(10)) || !bytes.Equal(b, fill(1)) || !slices.Equal(held, []int{0, 1}) || !slices.Equal(dirty, []int{0}) {
		t.Error("an answer is changed by what is done behind it")
	}
}

// R4: the lists that Held and Dirty answer share no memory with the cache, nor with each other.
func TestListsShareNothing(t *testing.T) {
	p := newPair(t, 8, 8)
	for at := range 6 {
		p.put(5-at, fill(at), api.OK)
	}
	for _, list := range []func() []int{p.c.Held, p.c.Dirty} {
		a, b := list(), list()
		kept := slices.Clone(b)
		_ = append(a, 99)
		a = a[:cap(a)]
		for i := range a {
			a[i] = -7
		}
		if !slices.Equal(b, kept) {
			t.Fatal("two answers share memory")
		}
		p.same()
	}
	p.held(5, 4, 3, 2, 1, 0)
	p.unwind()
}

// R5: what is asked and told, and what is refused, changes nothing: a cache beside one of which much is asked does the same.
func TestAskingChangesNothing(t *testing.T) {
	asked, quiet := newPair(t, 7, 3), newPair(t, 7, 3)
	for i := range 300 {
		asked.same()
		for _, at := range append(far, 7) {
			asked.getNone(at, api.ErrArg)
			asked.put(at, fill(i), api.ErrArg)
			asked.pin(at, i%2 == 0, api.ErrNone)
			asked.clean(at, api.ErrNone)
		}
		asked.put(i%7, fill(i)[1:], api.ErrArg)
		asked.drop(0, 0)
		asked.drop(math.MinInt, 0)
		for _, p := range []pair{asked, quiet} {
			switch at := i * 5 % 7; i % 3 {
			case 0:
				p.put(at, fill(i), api.OK)
			case 1:
				p.got(at)
			default:
				p.cleanTold(at)
			}
		}
		if a, b := asked.c.Held(), quiet.c.Held(); !slices.Equal(a, b) {
			t.Fatalf("Held: %v, not %v", a, b)
		}
	}
	asked.unwind()
	quiet.unwind()
}

// R5: caches hang on their own calls alone, also those over one disk, as far as that is read.
func TestApart(t *testing.T) {
	d := newDisk(t, 6)
	a, b := cache.New(d, 2), cache.New(d, 4)
	if a == b {
		t.Fatal("New told one cache twice")
	}
	a.Put(1, fill(11))
	b.Get(1)
	b.Get(2)
	a.Put(3, fill(13))
	b.Pin(1, true)
	if got, code := b.Get(1); code != api.OK || !bytes.Equal(got, fill(1)) {
		t.Errorf("what one put the other one got: %v, %d", got, code)
	}
	if !slices.Equal(a.Held(), []int{1, 3}) || !slices.Equal(a.Dirty(), []int{1, 3}) || !slices.Equal(b.Held(), []int{2, 1}) || len(b.Dirty()) != 0 {
		t.Errorf("%v, %v, %v, %v", a.Held(), a.Dirty(), b.Held(), b.Dirty())
	}
	if b.Drop(9) != 1 || a.Drop(9) != 0 || a.Pin(2, true) != api.ErrNone {
		t.Error("what is pinned in one, or held, is in the other one")
	}
}

// R5: caches of several goroutines, each over a disk of its own.
func TestSideBySide(t *testing.T) {
	told := make([][]int, 8)
	var all sync.WaitGroup
	for i := range told {
		all.Go(func() {
			d := disk.New(40)
			c := cache.New(d, 10)
			for n := range 500 {
				c.Get(n * 7 % 40)
				c.Put(n*11%40, fill(n))
				c.Pin(n*3%40, n%2 == 0)
				c.Clean(n * 13 % 40)
			}
			told[i] = slices.Concat(c.Held(), c.Dirty(), d.Writes())
		})
	}
	all.Wait()
	for i := range told {
		if !slices.Equal(told[i], told[0]) {
			t.Fatalf("goroutine %d: %v, not %v", i, told[i], told[0])
		}
	}
}
