package cache_test

import (
	"bytes"
	"math"
	"slices"
	"testing"

	"purlin/api"
	"purlin/cache"
	"purlin/disk"
)

// far are numbers of sectors that no disk has.
var far = []int{math.MinInt, math.MinInt + 1, -1 << 32, math.MinInt32, -2049, -2048, -128, -2, -1, 2048, 2049, 1 << 16, math.MaxInt32, 1 << 32, 1<<32 + 1, 1 << 61, math.MaxInt - 1, math.MaxInt}

// lengths are of bytes that are no sector.
var lengths = []int{0, 1, 2, 64, 123, 126, 127, 129, 130, 255, 256, 4096}

// fill tells a sector whose bytes tell where they stand, other ones for each seed.
func fill(seed int) []byte {
	b := make([]byte, api.SectorSize)
	for i := range b {
		b[i] = byte(i*7 + seed*31 + seed>>8*5 + seed>>16)
	}
	return b
}

// newDisk makes a disk whose sectors are fill of their numbers, and on which nothing was written.
func newDisk(t *testing.T, sectors int) *disk.Disk {
	t.Helper()
	var image [][]byte
	for at := range sectors {
		image = append(image, fill(at))
	}
	d := disk.Load(image...)
	if d == nil {
		t.Fatalf("no disk of %d sectors", sectors)
	}
	return d
}

// entry is a sector that is held, by hand.
type entry struct {
	at            int
	bytes         []byte
	dirty, pinned bool
}

// byHand is a second reading of the chapter, by its words: what is held in one list, the oldest first, over a disk of its own, to which befalls what befalls the other one.
type byHand struct {
	d    *disk.Disk
	most int
	held []entry
}

// place tells where in the list a sector is; -1.
func (m *byHand) place(at int) int {
	return slices.IndexFunc(m.held, func(e entry) bool { return e.at == at })
}

// newest takes an entry from its place, if it has one, to the end of the list.
func (m *byHand) newest(e entry) {
	if i := m.place(e.at); i >= 0 {
		m.held = slices.Delete(m.held, i, i+1)
	}
	m.held = append(m.held, e)
}

// oldest tells the place of the oldest one that is neither dirty nor pinned; -1.
func (m *byHand) oldest() int {
	return slices.IndexFunc(m.held, func(e entry) bool { return !e.dirty && !e.pinned })
}

// shrink lets go what is too much, one by one.
func (m *byHand) shrink() {
	for len(m.held) > m.most && m.oldest() >= 0 {
		i := m.oldest()
		m.held = slices.Delete(m.held, i, i+1)
	}
}

// get tells what Get should tell, and does it.
func (m *byHand) get(at int) ([]byte, api.Errno) {
	e := entry{at: at}
	if i := m.place(at); i >= 0 {
		e = m.held[i]
	} else {
		b, code := m.d.Read(at)
		if code != api.OK {
			return nil, code
		}
		e.bytes = b
	}
	m.newest(e)
	m.shrink()
	return e.bytes, api.OK
}

// put tells what Put should tell, and does it.
func (m *byHand) put(at int, b []byte) api.Errno {
	if at < 0 || at >= m.d.Sectors() || len(b) != api.SectorSize {
		return api.ErrArg
	}
	e := entry{at: at, bytes: bytes.Clone(b), dirty: true}
	if i := m.place(at); i >= 0 {
		e.pinned = m.held[i].pinned
	}
	m.newest(e)
	m.shrink()
	return api.OK
}

// pin tells what Pin should tell, and does it.
func (m *byHand) pin(at int, on bool) api.Errno {
	i := m.place(at)
	if i < 0 {
		return api.ErrNone
	}
	m.held[i].pinned = on
	m.shrink()
	return api.OK
}

// clean tells what Clean should tell, and does it.
func (m *byHand) clean(at int) api.Errno {
	i := m.place(at)
	if i < 0 {
		return api.ErrNone
	}
	if m.held[i].dirty {
		if code := m.d.Write(at, m.held[i].bytes); code != api.OK {
			return code
		}
		m.held[i].dirty = false
	}
	m.shrink()
	return api.OK
}

// drop tells what Drop should tell, and does it.
func (m *byHand) drop(many int) int {
	n := 0
	for n < many && m.oldest() >= 0 {
		i := m.oldest()
		m.held = slices.Delete(m.held, i, i+1)
		n++
	}
	return n
}

// places tells what Held should tell, or, of those that are dirty, Dirty.
func (m *byHand) places(dirty bool) []int {
	var l []int
	for _, e := range m.held {
		if !dirty || e.dirty {
			l = append(l, e.at)
		}
	}
	if dirty {
		slices.Sort(l)
	}
	return l
}

// pair is a cache over a disk beside its second reading.
type pair struct {
	t *testing.T
	c *cache.Cache
	d *disk.Disk
	m *byHand
}

// newPair makes a cache of so many over a disk of so many sectors, and its second reading.
func newPair(t *testing.T, sectors, most int) pair {
	t.Helper()
	d := newDisk(t, sectors)
	c := cache.New(d, most)
	if c == nil {
		t.Fatalf("New(%d sectors, %d) told nil", sectors, most)
	}
	return pair{t, c, d, &byHand{d: newDisk(t, sectors), most: most}}
}

// got asks that Get tells what it tells by hand, and tells that.
func (p pair) got(at int) ([]byte, api.Errno) {
	p.t.Helper()
	want, wantCode := p.m.get(at)
	if b, code := p.c.Get(at); code != wantCode || !bytes.Equal(b, want) {
		p.t.Fatalf("Get(%d): %v, %d, not %v, %d", at, b, code, want, wantCode)
	}
	return want, wantCode
}

// get asks that Get tells these bytes.
func (p pair) get(at int, want []byte) {
	p.t.Helper()
	if b, code := p.got(at); code != api.OK || !bytes.Equal(b, want) {
		p.t.Fatalf("Get(%d): %v, %d, not %v", at, b, code, want)
	}
}

// getNone asks that Get tells this code.
func (p pair) getNone(at int, want api.Errno) {
	p.t.Helper()
	if b, code := p.got(at); code != want || len(b) != 0 {
		p.t.Fatalf("Get(%d): %v, %d, not %d", at, b, code, want)
	}
}

// alike asks that a call tells the code that it tells by hand, and tells that.
func (p pair) alike(what string, at int, got, hand api.Errno) api.Errno {
	p.t.Helper()
	if got != hand {
		p.t.Fatalf("%s(%d): %d, not %d", what, at, got, hand)
	}
	return hand
}

// putTold tells what Put tells, and by hand too.
func (p pair) putTold(at int, b []byte) api.Errno {
	p.t.Helper()
	return p.alike("Put", at, p.c.Put(at, b), p.m.put(at, b))
}

// pinTold tells what Pin tells, and by hand too.
func (p pair) pinTold(at int, on bool) api.Errno {
	p.t.Helper()
	return p.alike("Pin", at, p.c.Pin(at, on), p.m.pin(at, on))
}

// cleanTold tells what Clean tells, and by hand too.
func (p pair) cleanTold(at int) api.Errno {
	p.t.Helper()
	return p.alike("Clean", at, p.c.Clean(at), p.m.clean(at))
}

// dropTold tells what Drop tells, and by hand too.
func (p pair) dropTold(many int) int {
	p.t.Helper()
	got, hand := p.c.Drop(many), p.m.drop(many)
	if got != hand {
		p.t.Fatalf("Drop(%d): %d, not %d", many, got, hand)
	}
	return hand
}

// put asks that Put tells this.
func (p pair) put(at int, b []byte, want api.Errno) {
	p.t.Helper()
	if code := p.putTold(at, b); code != want {
		p.t.Fatalf("Put(%d): %d, not %d", at, code, want)
	}
}

// pin asks that Pin tells this.
func (p pair) pin(at int, on bool, want api.Errno) {
	p.t.Helper()
	if code := p.pinTold(at, on); code != want {
		p.t.Fatalf("Pin(%d, %v): %d, not %d", at, on, code, want)
	}
}

// clean asks that Clean tells this.
func (p pair) clean(at int, want api.Errno) {
	p.t.Helper()
	if code := p.cleanTold(at); code != want {
		p.t.Fatalf("Clean(%d): %d, not %d", at, code, want)
	}
}

// drop asks that Drop tells this.
func (p pair) drop(many, want int) {
	p.t.Helper()
	if n := p.dropTold(many); n != want {
		p.t.Fatalf("Drop(%d): %d, not %d", many, n, want)
	}
}

// held asks that these are held, the oldest first.
func (p pair) held(want ...int) {
	p.t.Helper()
	p.same()
	if got := p.c.Held(); !slices.Equal(got, want) {
		p.t.Fatalf("Held: %v, not %v", got, want)
	}
}

// dirty asks that these are dirty.
func (p pair) dirty(want ...int) {
	p.t.Helper()
	p.same()
	if got := p.c.Dirty(); !slices.Equal(got, want) {
		p.t.Fatalf("Dirty: %v, not %v", got, want)
	}
}

// written asks that just these sectors were written, in this order, and nothing was flushed.
func (p pair) written(want ...int) {
	p.t.Helper()
	if got := p.d.Writes(); !slices.Equal(got, want) || p.d.Flushes() != 0 {
		p.t.Fatalf("written: %v, flushed %d times, not %v", got, p.d.Flushes(), want)
	}
}

// same asks that the cache tells what is told by hand, and that the same befell both disks.
func (p pair) same() {
	p.t.Helper()
	if got, want := p.c.Held(), p.m.places(false); !slices.Equal(got, want) {
		p.t.Fatalf("Held: %v, not %v", got, want)
	}
	if got, want := p.c.Dirty(), p.m.places(true); !slices.Equal(got, want) {
		p.t.Fatalf("Dirty: %v, not %v", got, want)
	}
	if d := p.m.d; p.d.On() != d.On() || p.d.Flushes() != d.Flushes() || !slices.Equal(p.d.Writes(), d.Writes()) || !slices.Equal(p.d.Waiting(), d.Waiting()) {
		p.t.Fatalf("the disk: %v, %v, %v, not %v, %v, %v", p.d.On(), p.d.Writes(), p.d.Waiting(), d.On(), d.Writes(), d.Waiting())
	}
}

// reads asks that what is read of the disk is what is read of the other one.
func (p pair) reads() {
	p.t.Helper()
	for at := range p.d.Sectors() {
		b, code := p.d.Read(at)
		want, wantCode := p.m.d.Read(at)
		if code != wantCode || !bytes.Equal(b, want) {
			p.t.Fatalf("sector %d of the disk: %v, %d, not %v, %d", at, b, code, want, wantCode)
		}
	}
}

// crash takes the power of both disks.
func (p pair) crash(keep ...bool) {
	p.d.Crash(keep...)
	p.m.d.Crash(keep...)
}

// boot gives the power back to both disks, if it is gone.
func (p pair) boot() {
	p.d.Boot()
	p.m.d.Boot()
}

// arm lays a trap for the power of both disks.
func (p pair) arm(after int, keep ...bool) {
	p.d.Arm(after, keep...)
	p.m.d.Arm(after, keep...)
}

// unwind asks for the bytes of all that is held, the oldest first, which leaves their order, and lets all go, one by one, so that of each one is seen whether it is dirty, and pinned, and its age.
func (p pair) unwind() {
	p.t.Helper()
	p.boot()
	p.arm(math.MaxInt)
	for _, at := range p.m.places(false) {
		p.got(at)
	}
	p.same()
	for p.dropTold(1) > 0 {
		p.same()
	}
	for _, e := range slices.Clone(p.m.held) {
		if e.dirty {
			p.clean(e.at, api.OK)
			p.dropTold(1)
			p.same()
		}
		if e.pinned {
			p.pin(e.at, false, api.OK)
			p.dropTold(1)
			p.same()
		}
	}
	p.reads()
	p.held()
	p.dirty()
}
