package disk_test

import (
	"bytes"
	"math"
	"slices"
	"testing"

	"purlin/api"
	"purlin/disk"
)

// full tells a sector of one byte again and again.
func full(x byte) []byte {
	return bytes.Repeat([]byte{x}, api.SectorSize)
}

// mixed tells a sector each of whose bytes tells where it stands.
func mixed(x byte) []byte {
	b := full(x)
	for i := range b {
		b[i] += byte(i * 7)
	}
	return b
}

// write writes, and wants it to go well.
func write(t *testing.T, d *disk.Disk, at int, b []byte) {
	t.Helper()
	if code := d.Write(at, b); code != api.OK {
		t.Fatalf("Write(%d) told %d", at, code)
	}
}

// want reads, and wants these bytes.
func want(t *testing.T, d *disk.Disk, at int, b []byte) {
	t.Helper()
	got, code := d.Read(at)
	if code != api.OK || !bytes.Equal(got, b) {
		t.Fatalf("Read(%d) told %v, %d, want %v", at, got, code, b)
	}
}

// wantFirm wants these firm bytes of a sector.
func wantFirm(t *testing.T, d *disk.Disk, at int, b []byte) {
	t.Helper()
	if got := d.Image()[at]; !bytes.Equal(got, b) {
		t.Fatalf("sector %d is firm as %v, want %v", at, got, b)
	}
}

// wantCode wants a code.
func wantCode(t *testing.T, what string, got, want api.Errno) {
	t.Helper()
	if got != want {
		t.Fatalf("%s told %d, want %d", what, got, want)
	}
}

// P4.1: New: a disk of zeros from 1 to 2,048 sectors, with power; else nil.
func TestNew(t *testing.T) {
	for _, n := range []int{math.MinInt, -2049, -1, 0, 2049, 1 << 40, math.MaxInt} {
		if disk.New(n) != nil {
			t.Errorf("New(%d) told a disk", n)
		}
	}
	for _, n := range []int{1, 2, 77, 2047, 2048} {
		d := disk.New(n)
		if d == nil || d.Sectors() != n || !d.On() || len(d.Image()) != n {
			t.Fatalf("New(%d) told no such disk", n)
		}
		for at := range n {
			want(t, d, at, full(0))
			wantFirm(t, d, at, full(0))
		}
		if len(d.Waiting()) != 0 || len(d.Writes()) != 0 || d.Flushes() != 0 {
			t.Errorf("New(%d): something befell it", n)
		}
		wantCode(t, "Boot of a new one", d.Boot(), api.ErrState)
	}
}

// P4.1: Load: a disk that has these sectors, firm; nil of too few, too many, or a sector that is none.
func TestLoad(t *testing.T) {
	for _, n := range []int{1, 2, 9, 2048} {
		var image [][]byte
		for at := range n {
			image = append(image, mixed(byte(at+at/256+1)))
		}
		d := disk.Load(image...)
		if d == nil || d.Sectors() != n || !d.On() {
			t.Fatalf("Load of %d told no such disk", n)
		}
		for at := range n {
			want(t, d, at, image[at])
		}
		if len(d.Waiting()) != 0 || len(d.Writes()) != 0 || d.Flushes() != 0 {
			t.Errorf("Load of %d: something befell it", n)
		}
		d.Crash()
		wantCode(t, "Boot", d.Boot(), api.OK)
		for at, b := range d.Image() {
			if !bytes.Equal(b, image[at]) {
				t.Fatalf("sector %d is not firm", at)
			}
			want(t, d, at, image[at])
		}
	}
}

// P4.1: Load: nil of what is no image.
func TestLoadNone(t *testing.T) {
	if disk.Load() != nil || disk.Load(nil...) != nil {
		t.Error("Load of nothing told a disk")
	}
	for _, n := range []int{2049, 5000} {
		image := make([][]byte, n)
		for at := range image {
			image[at] = full(1)
		}
		if disk.Load(image...) != nil {
			t.Errorf("Load of %d told a disk", n)
		}
	}
	for _, size := range []int{0, 1, 127, 129, 256} {
		for at := range 3 {
			image := [][]byte{full(1), full(2), full(3)}
			image[at] = make([]byte, size)
			if disk.Load(image...) != nil {
				t.Errorf("Load with %d bytes at %d told a disk", size, at)
			}
			image[at] = nil
			if disk.Load(image...) != nil {
				t.Errorf("Load with nil at %d told a disk", at)
			}
		}
	}
}

// P4.1: Read tells what was written last, firm or not; Write waits; Flush makes all firm.
func TestReadWriteFlush(t *testing.T) {
	d := disk.New(4)
	write(t, d, 2, mixed(1))
	want(t, d, 2, mixed(1))
	wantFirm(t, d, 2, full(0))
	write(t, d, 2, mixed(2))
	write(t, d, 0, mixed(3))
	want(t, d, 2, mixed(2))
	want(t, d, 0, mixed(3))
	want(t, d, 1, full(0))
	wantCode(t, "Flush", d.Flush(), api.OK)
	for at, b := range [][]byte{mixed(3), full(0), mixed(2), full(0)} {
		wantFirm(t, d, at, b)
		want(t, d, at, b)
	}
	write(t, d, 0, mixed(4))
	wantFirm(t, d, 0, mixed(3))
	want(t, d, 0, mixed(4))
	d.Crash()
	wantCode(t, "Boot", d.Boot(), api.OK)
	want(t, d, 0, mixed(3))
	want(t, d, 2, mixed(2))
}

// P4.1: the first and the last sector are sectors; those beside them, and bytes of another size, are ErrArg, and change nothing.
func TestWrongArguments(t *testing.T) {
	d := disk.New(3)
	write(t, d, 0, full(1))
	write(t, d, 2, full(2))
	for _, at := range []int{math.MinInt, -3, -1, 3, 4, 2048, math.MaxInt} {
		b, code := d.Read(at)
		if len(b) != 0 {
			t.Errorf("Read(%d) told bytes", at)
		}
		wantCode(t, "Read of no sector", code, api.ErrArg)
		wantCode(t, "Write to no sector", d.Write(at, full(3)), api.ErrArg)
		wantCode(t, "Write of nothing to no sector", d.Write(at, nil), api.ErrArg)
	}
	for _, size := range []int{0, 1, 123, 127, 129, 4096} {
		wantCode(t, "Write of no sector", d.Write(1, make([]byte, size)), api.ErrArg)
	}
	wantCode(t, "Write of nil", d.Write(1, nil), api.ErrArg)
	if !slices.Equal(d.Waiting(), []int{0, 2}) || !slices.Equal(d.Writes(), []int{0, 2}) {
		t.Errorf("what went wrong is counted: %v, %v", d.Waiting(), d.Writes())
	}
	want(t, d, 1, full(0))
}

// P4.1, P4.2: without power each call but Boot and those that only tell is ErrOff, ahead of ErrArg, and changes nothing.
func TestWithoutPower(t *testing.T) {
	d := disk.New(2)
	write(t, d, 1, full(5))
	wantCode(t, "Flush", d.Flush(), api.OK)
	d.Crash(true)
	for _, at := range []int{0, 1, 2, -1} {
		b, code := d.Read(at)
		if len(b) != 0 {
			t.Errorf("Read(%d) told bytes", at)
		}
		wantCode(t, "Read", code, api.ErrOff)
		wantCode(t, "Write", d.Write(at, full(6)), api.ErrOff)
		wantCode(t, "Write", d.Write(at, nil), api.ErrOff)
	}
	wantCode(t, "Flush", d.Flush(), api.ErrOff)
	wantCode(t, "Arm", d.Arm(0, true), api.ErrOff)
	wantCode(t, "Arm", d.Arm(-1), api.ErrOff)
	if d.On() || d.Flushes() != 1 || !slices.Equal(d.Writes(), []int{1}) || len(d.Waiting()) != 0 || d.Sectors() != 2 {
		t.Error("something befell it without power")
	}
	wantFirm(t, d, 1, full(5))
	wantCode(t, "Boot", d.Boot(), api.OK)
	// No Arm took place.
	write(t, d, 0, full(7))
	want(t, d, 0, full(7))
	want(t, d, 1, full(5))
}

// P4.2: Boot: ErrState of a disk that is on; else it is on. A second Crash finds nothing that waits.
func TestBoot(t *testing.T) {
	d := disk.New(1)
	wantCode(t, "Boot", d.Boot(), api.ErrState)
	if !d.On() {
		t.Fatal("a Boot took the power")
	}
	write(t, d, 0, full(1))
	d.Crash()
	if d.On() {
		t.Fatal("the power stayed")
	}
	d.Crash(true)
	if d.On() {
		t.Fatal("a second Crash gave the power back")
	}
	wantCode(t, "Boot", d.Boot(), api.OK)
	if !d.On() {
		t.Fatal("it is not on")
	}
	wantCode(t, "Boot", d.Boot(), api.ErrState)
	want(t, d, 0, full(0))
}

// P4.2: Crash: the i-th write that waits lasts if there is a keep and keep[i modulo their number]; in order; nothing waits.
func TestCrashKeep(t *testing.T) {
	order := []int{0, 1, 0, 2, 1, 0, 3}
	for _, keep := range [][]bool{
		nil, {}, {true}, {false}, {true, false}, {false, true}, {true, true, false}, {false, false, true},
		{false, false, true, false, false, false, false}, {false, false, false, false, false, false, true},
		{true, false, false, false, false, true, false}, {false, false, false, false, false, false, false, true, true},
		{true, true, true, false, false, false, false, false, false, false, false},
	} {
		d := disk.New(5)
		firm := [][]byte{full(0), full(0), full(0), full(0), full(9)}
		write(t, d, 4, full(9))
		wantCode(t, "Flush", d.Flush(), api.OK)
		for i, at := range order {
			write(t, d, at, mixed(byte(i+1)))
			if len(keep) > 0 && keep[i%len(keep)] {
				firm[at] = mixed(byte(i + 1))
			}
		}
		d.Crash(keep...)
		if d.On() || len(d.Waiting()) != 0 {
			t.Errorf("Crash(%v): it is on, or something waits", keep)
		}
		wantCode(t, "Boot", d.Boot(), api.OK)
		for at, b := range firm {
			wantFirm(t, d, at, b)
			want(t, d, at, b)
		}
		if len(d.Waiting()) != 0 {
			t.Errorf("Crash(%v): something waits behind Boot", keep)
		}
		// What was lost stays lost.
		wantCode(t, "Flush", d.Flush(), api.OK)
		for at, b := range firm {
			wantFirm(t, d, at, b)
		}
	}
}

// P4.2: Arm: behind so many writes and flushes that go well the next one finds that the power goes; it does nothing.
func TestArm(t *testing.T) {
	for after := range 7 {
		for _, keep := range [][]bool{nil, {true}, {false, true}} {
			d := disk.New(8)
			firm := make([][]byte, 8)
			for at := range firm {
				firm[at] = full(0)
			}
			wantCode(t, "Arm", d.Arm(after, keep...), api.OK)
			steps, waits := 0, []int(nil)
			for ; steps < after; steps++ {
				if steps == 3 {
					wantCode(t, "Flush", d.Flush(), api.OK)
					for _, at := range waits {
						firm[at] = full(byte(at + 1))
					}
					waits = nil
					continue
				}
				write(t, d, steps, full(byte(steps+1)))
				waits = append(waits, steps)
			}
			for i, at := range waits {
				if len(keep) > 0 && keep[i%len(keep)] {
					firm[at] = full(byte(at + 1))
				}
			}
			written, flushes := d.Writes(), d.Flushes()
			if !d.On() {
				t.Fatalf("after %d the power went too early", after)
			}
			if after%2 == 0 {
				wantCode(t, "the last Write", d.Write(7, full(99)), api.ErrOff)
			} else {
				wantCode(t, "the last Flush", d.Flush(), api.ErrOff)
			}
			if d.On() || len(d.Waiting()) != 0 || !slices.Equal(d.Writes(), written) || d.Flushes() != flushes {
				t.Fatalf("after %d the last one did something", after)
			}
			wantCode(t, "Boot", d.Boot(), api.OK)
			for at, b := range firm {
				wantFirm(t, d, at, b)
				want(t, d, at, b)
			}
			// It is over with the crash.
			write(t, d, 0, full(1))
			wantCode(t, "Flush", d.Flush(), api.OK)
		}
	}
}

// P4.2: Arm: what does not go well is not counted, and is told as ever; reads are not counted either.
func TestArmCountsWhatGoesWell(t *testing.T) {
	d := disk.New(2)
	wantCode(t, "Arm", d.Arm(1, true), api.OK)
	for range 3 {
		wantCode(t, "Write", d.Write(2, full(1)), api.ErrArg)
		wantCode(t, "Write", d.Write(0, nil), api.ErrArg)
		wantCode(t, "Boot", d.Boot(), api.ErrState)
		want(t, d, 0, full(0))
	}
	write(t, d, 0, full(3))
	for range 3 {
		wantCode(t, "Write", d.Write(-1, full(1)), api.ErrArg)
		wantCode(t, "Write", d.Write(1, full(1)[:127]), api.ErrArg)
		want(t, d, 0, full(3))
	}
	if !d.On() {
		t.Fatal("the power went at what does not go well")
	}
	wantCode(t, "Write", d.Write(1, full(4)), api.ErrOff)
	wantCode(t, "Boot", d.Boot(), api.OK)
	want(t, d, 0, full(3))
	want(t, d, 1, full(0))
}

// P4.2: Arm: ErrArg below 0, which leaves the earlier Arm; a later Arm takes its place; a Crash ends it.
func TestArmAgain(t *testing.T) {
	d := disk.New(2)
	for _, after := range []int{-1, -2, math.MinInt} {
		wantCode(t, "Arm", d.Arm(after), api.ErrArg)
	}
	write(t, d, 0, full(1))
	wantCode(t, "Flush", d.Flush(), api.OK)

	wantCode(t, "Arm", d.Arm(0, true), api.OK)
	wantCode(t, "Arm", d.Arm(-1), api.ErrArg)
	wantCode(t, "Flush", d.Flush(), api.ErrOff)
	wantCode(t, "Boot", d.Boot(), api.OK)

	wantCode(t, "Arm", d.Arm(0), api.OK)
	wantCode(t, "Arm", d.Arm(1, true), api.OK)
	write(t, d, 1, full(2))
	wantCode(t, "Flush", d.Flush(), api.ErrOff)
	wantCode(t, "Boot", d.Boot(), api.OK)
	want(t, d, 1, full(2))

	wantCode(t, "Arm", d.Arm(1, true), api.OK)
	wantCode(t, "Arm", d.Arm(0), api.OK)
	wantCode(t, "Flush", d.Flush(), api.ErrOff)
	wantCode(t, "Boot", d.Boot(), api.OK)

	wantCode(t, "Arm", d.Arm(0, true), api.OK)
	d.Crash()
	wantCode(t, "Boot", d.Boot(), api.OK)
	write(t, d, 0, full(3))
	wantCode(t, "Flush", d.Flush(), api.OK)
	wantCode(t, "Arm", d.Arm(math.MaxInt), api.OK)
	for range 100 {
		write(t, d, 0, full(4))
	}
	if !d.On() {
		t.Error("the power went")
	}
}

// P4.3: Waiting, Writes and Flushes: in order, each write for itself; Writes and Flushes since the disk was made.
func TestWhatBefell(t *testing.T) {
	d := disk.New(6)
	tell := func(waiting, writes []int, flushes int) {
		t.Helper()
		if !slices.Equal(d.Waiting(), waiting) || !slices.Equal(d.Writes(), writes) || d.Flushes() != flushes {
			t.Fatalf("told %v, %v, %d, want %v, %v, %d", d.Waiting(), d.Writes(), d.Flushes(), waiting, writes, flushes)
		}
	}
	tell(nil, nil, 0)
	for _, at := range []int{5, 0, 5, 2} {
		write(t, d, at, full(1))
	}
	tell([]int{5, 0, 5, 2}, []int{5, 0, 5, 2}, 0)
	wantCode(t, "Flush", d.Flush(), api.OK)
	tell(nil, []int{5, 0, 5, 2}, 1)
	wantCode(t, "Flush", d.Flush(), api.OK)
	tell(nil, []int{5, 0, 5, 2}, 2)
	write(t, d, 1, full(1))
	write(t, d, 1, full(1))
	tell([]int{1, 1}, []int{5, 0, 5, 2, 1, 1}, 2)
	d.Crash(true)
	tell(nil, []int{5, 0, 5, 2, 1, 1}, 2)
	wantCode(t, "Flush", d.Flush(), api.ErrOff)
	tell(nil, []int{5, 0, 5, 2, 1, 1}, 2)
	wantCode(t, "Boot", d.Boot(), api.OK)
	tell(nil, []int{5, 0, 5, 2, 1, 1}, 2)
	write(t, d, 3, full(1))
	tell([]int{3}, []int{5, 0, 5, 2, 1, 1, 3}, 2)
}

// R3: every method of a nil disk tells ErrNil, or zero values.
func TestNil(t *testing.T) {
	var d *disk.Disk
	b, code := d.Read(0)
	if len(b) != 0 {
		t.Error("Read told bytes")
	}
	wantCode(t, "Read", code, api.ErrNil)
	wantCode(t, "Write", d.Write(0, full(1)), api.ErrNil)
	wantCode(t, "Write", d.Write(-1, nil), api.ErrNil)
	wantCode(t, "Flush", d.Flush(), api.ErrNil)
	wantCode(t, "Arm", d.Arm(0, true), api.ErrNil)
	wantCode(t, "Arm", d.Arm(-1), api.ErrNil)
	wantCode(t, "Boot", d.Boot(), api.ErrNil)
	d.Crash()
	d.Crash(true, false)
	if d.Sectors() != 0 || d.On() || len(d.Image()) != 0 || len(d.Waiting()) != 0 || len(d.Writes()) != 0 || d.Flushes() != 0 {
		t.Error("a nil disk tells something")
	}
}

// R1: a disk that no call made does not panic either.
func TestZero(t *testing.T) {
	var d disk.Disk
	d.Read(0)
	d.Write(0, full(1))
	d.Flush()
	d.Arm(0, true)
	d.Boot()
	d.Read(0)
	d.Write(0, full(1))
	d.Flush()
	d.Crash(true)
	if d.Sectors() != 0 || len(d.Image()) != 0 || len(d.Waiting()) != 0 {
		t.Error("it has sectors")
	}
}

// roomy tells a sector in a longer array, whose spare room is filled.
func roomy(x byte) []byte {
	b := bytes.Repeat([]byte{x}, 3*api.SectorSize)
	return b[api.SectorSize : 2*api.SectorSize]
}

// R4: what is handed in is neither changed nor kept.
func TestHandedIn(t *testing.T) {
	image := [][]byte{roomy(1), roomy(2), roomy(3)}
	d := disk.Load(image...)
	image[0][5] = 77
	image[1] = nil
	b := roomy(4)
	write(t, d, 2, b)
	b[0] = 78
	want(t, d, 0, full(1))
	want(t, d, 1, full(2))
	want(t, d, 2, full(4))
	wantCode(t, "Flush", d.Flush(), api.OK)
	wantFirm(t, d, 2, full(4))
	b[1] = 79
	wantFirm(t, d, 2, full(4))
	write(t, d, 2, full(5))
	wantCode(t, "Flush", d.Flush(), api.OK)
	if rest := b[2:cap(b)]; !bytes.Equal(rest, bytes.Repeat([]byte{4}, len(rest))) {
		t.Error("bytes that were handed in were changed")
	}
	if whole := image[2][:cap(image[2])]; !bytes.Equal(whole, bytes.Repeat([]byte{3}, len(whole))) {
		t.Error("a sector that was handed in was changed")
	}
}

// R4: the keep that is handed in is neither changed nor kept.
func TestHandedInKeep(t *testing.T) {
	d := disk.New(2)
	keep := []bool{true, false, true, true}
	wantCode(t, "Arm", d.Arm(2, keep[:2]...), api.OK)
	keep[0], keep[1] = false, true
	write(t, d, 0, full(1))
	write(t, d, 1, full(2))
	wantCode(t, "Flush", d.Flush(), api.ErrOff)
	if !slices.Equal(keep, []bool{false, true, true, true}) {
		t.Error("a keep that was handed in was changed")
	}
	wantCode(t, "Boot", d.Boot(), api.OK)
	want(t, d, 0, full(1))
	want(t, d, 1, full(0))
	write(t, d, 0, full(3))
	d.Crash(keep...)
	if !slices.Equal(keep, []bool{false, true, true, true}) {
		t.Error("a keep that was handed in was changed")
	}
}

// R4: what is answered shares no memory with what the disk holds, nor with another answer.
func TestAnswersAreNew(t *testing.T) {
	d := disk.Load(full(1), full(2))
	write(t, d, 1, full(3))
	write(t, d, 0, full(4))
	spoil := func() {
		read, _ := d.Read(1)
		clear(read[:cap(read)])
		image := d.Image()
		for _, b := range image {
			clear(b[:cap(b)])
		}
		clear(image[:cap(image)])
		waiting, written := d.Waiting(), d.Writes()
		clear(waiting[:cap(waiting)])
		clear(written[:cap(written)])
		_ = append(d.Writes(), 99)
		_ = append(d.Waiting(), 99)
	}
	spoil()
	want(t, d, 1, full(3))
	wantFirm(t, d, 0, full(1))
	wantFirm(t, d, 1, full(2))
	if !slices.Equal(d.Waiting(), []int{1, 0}) || !slices.Equal(d.Writes(), []int{1, 0}) {
		t.Error("a list that was told is the disk's own")
	}
	one, _ := d.Read(0)
	image := d.Image()
	wantCode(t, "Flush", d.Flush(), api.OK)
	write(t, d, 0, full(5))
	wantCode(t, "Flush", d.Flush(), api.OK)
	if !bytes.Equal(one, full(4)) || !bytes.Equal(image[0], full(1)) {
		t.Error("what was told was changed by a later call")
	}
	spoil()
	want(t, d, 0, full(5))
	wantFirm(t, d, 1, full(3))
	// The sectors of one image are lists of their own: what is added to one does not reach the next.
	image = d.Image()
	_ = append(image[0], full(9)...)
	if !bytes.Equal(image[1], full(3)) {
		t.Error("the sectors of an image share memory")
	}
}

// model is a disk by the words of the chapter: what is firm, and all that waits, looked through each time.
type model struct {
	on      bool
	firm    []byte
	waits   [][2]int
	writes  []int
	flushes int
	armed   bool
	after   int
	keep    []bool
}

func (m *model) crash(keep []bool) {
	for i, w := range m.waits {
		if len(keep) > 0 && keep[i%len(keep)] {
			m.firm[w[0]] = byte(w[1])
		}
	}
	m.waits, m.on, m.armed = nil, false, false
}

func (m *model) falls() bool {
	if m.armed && m.after == 0 {
		m.crash(m.keep)
		return true
	}
	m.after--
	return false
}

func (m *model) write(at int, x byte) api.Errno {
	switch {
	case !m.on:
		return api.ErrOff
	case at < 0 || at >= len(m.firm):
		return api.ErrArg
	case m.falls():
		return api.ErrOff
	}
	m.waits = append(m.waits, [2]int{at, int(x)})
	m.writes = append(m.writes, at)
	return api.OK
}

func (m *model) flush() api.Errno {
	if !m.on || m.falls() {
		return api.ErrOff
	}
	for _, w := range m.waits {
		m.firm[w[0]] = byte(w[1])
	}
	m.waits = nil
	m.flushes++
	return api.OK
}

func (m *model) read(at int) byte {
	x := m.firm[at]
	for _, w := range m.waits {
		if w[0] == at {
			x = byte(w[1])
		}
	}
	return x
}

// same wants the disk to be as the model is.
func (m *model) same(t *testing.T, d *disk.Disk) {
	t.Helper()
	var waiting []int
	for _, w := range m.waits {
		waiting = append(waiting, w[0])
	}
	if d.On() != m.on || d.Flushes() != m.flushes || !slices.Equal(d.Writes(), m.writes) || !slices.Equal(d.Waiting(), waiting) {
		t.Fatal("it is not as the model is")
	}
	for at, x := range m.firm {
		wantFirm(t, d, at, full(x))
		if m.on {
			want(t, d, at, full(m.read(at)))
		}
	}
}

// P4.1 to P4.3: long runs of calls of all kinds tell what the words of the chapter do.
func TestLongRuns(t *testing.T) {
	for seed := range uint32(40) {
		d, m := disk.New(5), &model{on: true, firm: make([]byte, 5)}
		state := seed*2654435761 + 12345
		draw := func(n int) int {
			state = state*1664525 + 1013904223
			return int(state>>16) % n
		}
		for step := range 300 {
			keep := make([]bool, draw(5))
			for i := range keep {
				keep[i] = draw(2) == 1
			}
			switch kind := draw(20); {
			case kind < 13:
				at, x := draw(7)-1, byte(step+1)
				wantCode(t, "Write", d.Write(at, full(x)), m.write(at, x))
			case kind < 15:
				wantCode(t, "Flush", d.Flush(), m.flush())
			case kind < 16:
				after, code := draw(8)-1, api.OK
				switch {
				case !m.on:
					code = api.ErrOff
				case after < 0:
					code = api.ErrArg
				default:
					m.armed, m.after, m.keep = true, after, keep
				}
				wantCode(t, "Arm", d.Arm(after, keep...), code)
			case kind < 17:
				d.Crash(keep...)
				m.crash(keep)
			default:
				code := api.OK
				if m.on {
					code = api.ErrState
				}
				m.on = true
				wantCode(t, "Boot", d.Boot(), code)
			}
			m.same(t, d)
		}
	}
}

// P4.1, P4.2: a great disk, and very many crashes with writes that wait, end in moments.
func TestGreat(t *testing.T) {
	d := disk.New(2048)
	for round := range 300 {
		for at := range 1000 {
			write(t, d, (at*7+round)%2048, full(byte(round)))
		}
		if round%3 == 0 {
			wantCode(t, "Flush", d.Flush(), api.OK)
		}
		d.Crash(true, false, true)
		wantCode(t, "Boot", d.Boot(), api.OK)
	}
	if len(d.Writes()) != 300000 || d.Flushes() != 100 {
		t.Error("not all is counted")
	}
}
