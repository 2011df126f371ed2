package mkfs_test

import (
	"bytes"
	"fmt"
	"testing"

	"purlin/api"
	"purlin/disk"
	"purlin/mkfs"
)

// done tells how many Writes and Flushes befell a disk.
func done(d *disk.Disk) int {
	return len(d.Writes()) + d.Flushes()
}

// work tells how many Writes and Flushes of d, which is thrown away, a Format takes when the power stays.
func work(t *testing.T, d *disk.Disk, g api.Geometry) int {
	t.Helper()
	before := done(d)
	format(t, d, g)
	return done(d) - before
}

// P20.1: Format: behind OK the disk is Image's, firm, whether it was new or had other bytes in each sector.
func TestFormat(t *testing.T) {
	gs := some()
	for i, g := range all() {
		if i%17 == 0 {
			gs = append(gs, g)
		}
	}
	for _, g := range gs {
		for what, d := range map[string]*disk.Disk{"zeros": disk.New(sectors(g)), "used": used(t, sectors(g))} {
			format(t, d, g)
			newly(t, what, d, g)
			if !same(d.Image(), mkfs.Image(g)) {
				t.Fatalf("%s: %v: not the one that Image tells", what, g)
			}
		}
	}
}

// P20.1: Format: all is firm: a crash right behind it changes nothing, whatever it lets last, nor does a second one.
func TestFormatLasts(t *testing.T) {
	for _, g := range some() {
		for _, keep := range keeps() {
			d := used(t, sectors(g))
			format(t, d, g)
			for range 2 {
				d.Crash(keep...)
				boot(t, d)
				newly(t, fmt.Sprint("behind a crash of ", keep), d, g)
			}
		}
	}
}

// waiting makes a disk that has other bytes in each sector, over which writes wait: one over each sector, and more over some.
func waiting(t *testing.T, n int) *disk.Disk {
	t.Helper()
	d := used(t, n)
	for at := range n {
		for k := range 1 + at%3 {
			if code := d.Write(at, fill(1000+at*3+k)); code != api.OK {
				t.Fatalf("Write(%d): %d", at, code)
			}
		}
	}
	return d
}

// P20.1: Format: writes of an earlier time that still wait come to nothing, behind a crash too.
func TestFormatOverWhatWaits(t *testing.T) {
	for _, g := range some() {
		for _, keep := range keeps() {
			d := waiting(t, sectors(g))
			format(t, d, g)
			newly(t, "over what waits", d, g)
			d.Crash(keep...)
			boot(t, d)
			newly(t, fmt.Sprint("over what waits, behind a crash of ", keep), d, g)
		}
	}
}

// P20.1: Format: over a file system of another geometry that takes as many sectors, and over one of its own.
func TestFormatOverAnother(t *testing.T) {
	pairs := [][2]api.Geometry{
		{geo(1, 4, 17), geo(1, 8, 16)}, {geo(2, 4, 16), geo(1, 4, 34)}, {geo(2, 4, 48), geo(1, 12, 96)}, {geo(4, 4, 48), geo(2, 16, 95)}, {geo(3, 12, 40), geo(3, 12, 40)},
	}
	for _, p := range pairs {
		if sectors(p[0]) != sectors(p[1]) {
			t.Fatalf("%v take %d and %d sectors", p, sectors(p[0]), sectors(p[1]))
		}
		d := disk.New(sectors(p[0]))
		for _, g := range []api.Geometry{p[0], p[1], p[1], p[0]} {
			format(t, d, g)
			newly(t, "over another one", d, g)
		}
	}
}

// P20.1: Format of a disk to which the power came again.
func TestFormatBehindACrash(t *testing.T) {
	for _, g := range some() {
		d := waiting(t, sectors(g))
		d.Crash(true, false)
		boot(t, d)
		format(t, d, g)
		newly(t, "booted", d, g)
	}
}

// P20.1: Format of no disk: ErrNil, whatever the geometry is (R6).
func TestFormatOfNoDisk(t *testing.T) {
	for _, g := range append(some(), none()...) {
		if code := mkfs.Format(nil, g); code != api.ErrNil {
			t.Errorf("%v: %d", g, code)
		}
	}
}

// sizes tells numbers of sectors that are not g's: one fewer, one more, the least and the most that a disk may have.
func sizes(g api.Geometry) []int {
	n := sectors(g)
	return []int{n - 1, n + 1, n + 2, n / 2, 2 * n, 1, 2048}
}

// refused asks that Format tells that code, and that the disk is as it was.
func refused(t *testing.T, d *disk.Disk, g api.Geometry, want api.Errno) {
	t.Helper()
	before := told(t, d)
	for range 2 {
		if code := mkfs.Format(d, g); code != want {
			t.Fatalf("%v, of %d sectors: %d, not %d", g, d.Sectors(), code, want)
		}
	}
	if !told(t, d).as(before) {
		t.Fatalf("%v, of %d sectors: refused, and the disk is changed", g, d.Sectors())
	}
}

// P20.1: Format of a disk without power: ErrOff, ahead of all that is wrong beside it (R6); nothing is written (R5).
func TestFormatWithoutPower(t *testing.T) {
	for _, g := range some() {
		for _, n := range append(sizes(g), sectors(g)) {
			d := waiting(t, n)
			d.Crash(false, true)
			refused(t, d, g, api.ErrOff)
			for _, odd := range none() {
				if code := mkfs.Format(d, odd); code != api.ErrOff {
					t.Errorf("%v: %d", odd, code)
				}
			}
			boot(t, d)
		}
	}
}

// P20.1: Format of a geometry that may not be: ErrArg, also where the disk has as many sectors as it would take; nothing is written (R5).
func TestFormatOfNoGeometry(t *testing.T) {
	for _, g := range none() {
		counts := []int{1, 19, 20, 21, 842, 843, 2048}
		if n := sectors(g); n >= 1 && n <= 2048 && g.Groups < 2048 {
			counts = append(counts, n)
		}
		for _, n := range counts {
			refused(t, waiting(t, n), g, api.ErrArg)
		}
	}
}

// P20.1: Format of a disk of one sector fewer, of one more, of many fewer or more: ErrArg; nothing is written (R5).
func TestFormatOfAnotherSize(t *testing.T) {
	for _, g := range some() {
		for _, n := range sizes(g) {
			refused(t, waiting(t, n), g, api.ErrArg)
		}
	}
}

// R5: a Format that is refused takes nothing from what a disk is armed for: the first Write behind it finds that the power goes.
func TestRefusedSpringsNoTrap(t *testing.T) {
	for _, g := range append(some(), none()...) {
		d := used(t, 24)
		if code := d.Arm(0, true); code != api.OK {
			t.Fatalf("Arm: %d", code)
		}
		if sectors(g) != 24 {
			refused(t, d, g, api.ErrArg)
		}
		if code := d.Write(0, fill(1)); code != api.ErrOff {
			t.Fatalf("%v: a Write where the power goes: %d", g, code)
		}
		refused(t, d, geo(1, 4, 20), api.ErrOff)
	}
}

// part asks that each sector is as it was ahead, or as a new file system has it: what a Format that was cut short may leave.
func part(t *testing.T, what string, now, ahead, want [][]byte) {
	t.Helper()
	for at := range now {
		if !bytes.Equal(now[at], ahead[at]) && !bytes.Equal(now[at], want[at]) {
			t.Fatalf("%s: sector %d: %v", what, at, now[at])
		}
	}
}

// P20.1: Format, the power going at each of its Writes and Flushes: Disk's code; what it left is formatted when the power comes again.
func TestPowerGoes(t *testing.T) {
	for _, g := range []api.Geometry{geo(1, 4, 16), geo(1, 8, 16), geo(2, 8, 20), geo(8, 4, 16), geo(8, 32, 96)} {
		ahead, want := used(t, sectors(g)).Image(), byHand(t, g)
		for after := range work(t, used(t, sectors(g)), g) {
			keep := keeps()[after%len(keeps())]
			what := fmt.Sprint(g, ", the power going behind ", after, ", ", keep)
			d := used(t, sectors(g))
			if code := d.Arm(after, keep...); code != api.OK {
				t.Fatalf("Arm: %d", code)
			}
			if code := mkfs.Format(d, g); code != api.ErrOff || d.On() {
				t.Fatalf("%s: %d, the power on: %v", what, code, d.On())
			}
			if n := done(d); n != after {
				t.Fatalf("%s: %d went well", what, n)
			}
			part(t, what, d.Image(), ahead, want)
			boot(t, d)
			format(t, d, g)
			newly(t, what, d, g)
		}
	}
}

// P20.1: Format, the power going at each of its Writes and Flushes, with each way of what lasts.
func TestPowerGoesOverWhatWaits(t *testing.T) {
	g := geo(1, 4, 17)
	for after := range work(t, waiting(t, sectors(g)), g) {
		for _, keep := range keeps() {
			d := waiting(t, sectors(g))
			if code := d.Arm(after, keep...); code != api.OK {
				t.Fatalf("Arm: %d", code)
			}
			if code := mkfs.Format(d, g); code != api.ErrOff || d.On() || len(d.Waiting()) != 0 {
				t.Fatalf("behind %d, %v: %d", after, keep, code)
			}
			boot(t, d)
			format(t, d, g)
			newly(t, "again", d, g)
		}
	}
}

// P20.1: Format of a disk that is armed for the Write behind it: OK, and firm.
func TestPowerGoesBehindIt(t *testing.T) {
	for _, g := range some() {
		d := used(t, sectors(g))
		if code := d.Arm(work(t, used(t, sectors(g)), g)); code != api.OK {
			t.Fatalf("Arm: %d", code)
		}
		format(t, d, g)
		newly(t, "armed", d, g)
		if code := d.Write(0, fill(1)); code != api.ErrOff {
			t.Fatalf("%v: a Write where the power goes: %d", g, code)
		}
		boot(t, d)
		newly(t, "booted", d, g)
	}
}
