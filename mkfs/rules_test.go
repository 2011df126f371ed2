package mkfs_test

import (
	"bytes"
	"sync"
	"testing"

	"purlin/api"
	"purlin/disk"
	"purlin/mkfs"
)

// mark is written over what was answered.
const mark = 0xEE

// scribble writes all over bytes, over their spare room and behind it.
func scribble(b []byte) {
	_ = append(b, mark, mark, mark)
	b = b[:cap(b)]
	for i := range b {
		b[i] = mark
	}
}

// R4: no sector of an image shares memory with another one, nor with one of another answer; what is written over an answer reaches nothing that is told behind it.
func TestImagesShareNothing(t *testing.T) {
	for _, g := range some() {
		want := byHand(t, g)
		first, second := mkfs.Image(g), mkfs.Image(g)
		for at := range first {
			scribble(first[at])
			if at+1 < len(first) && !bytes.Equal(first[at+1], want[at+1]) {
				t.Fatalf("%v: sector %d reaches the next one", g, at)
			}
		}
		for at := range first {
			if !bytes.Equal(first[at], bytes.Repeat([]byte{mark}, 128)) {
				t.Fatalf("%v: sector %d is not its own", g, at)
			}
			first[at][0] = byte(at)
		}
		for at := range first {
			if first[at][0] != byte(at) {
				t.Fatalf("%v: sector %d is another one too", g, at)
			}
		}
		_ = append(first, make([]byte, 128))
		clear(first[:cap(first)])
		if !same(second, want) || !same(mkfs.Image(g), want) {
			t.Fatalf("%v: an image reaches another one", g)
		}
	}
}

// R4: a disk that is formatted shares no memory with what Image tells, nor with another disk.
func TestDisksShareNothing(t *testing.T) {
	for _, g := range some() {
		one, two := disk.New(sectors(g)), disk.New(sectors(g))
		image := mkfs.Image(g)
		format(t, one, g)
		format(t, two, g)
		for at := range image {
			scribble(image[at])
		}
		for at := range one.Sectors() {
			if code := one.Write(at, fill(at)); code != api.OK {
				t.Fatalf("Write(%d): %d", at, code)
			}
		}
		if code := one.Flush(); code != api.OK {
			t.Fatalf("Flush: %d", code)
		}
		newly(t, "another disk", two, g)
		format(t, one, g)
		newly(t, "the same disk, again", one, g)
	}
}

// R5: of the same the same is told again, whatever was asked between.
func TestAgain(t *testing.T) {
	for range 2 {
		for _, g := range some() {
			if !same(mkfs.Image(g), byHand(t, g)) {
				t.Fatalf("%v: another image", g)
			}
			d := used(t, sectors(g))
			mkfs.Format(d, geo(1, 5, 16))
			format(t, d, g)
			newly(t, "again", d, g)
			mkfs.Image(geo(9, 32, 96))
			if got := mkfs.Fit(sectors(geo(2, 4, 49))); got != geo(2, 4, 49) {
				t.Fatalf("Fit: %v", got)
			}
		}
	}
}

// R5: the same writes and flushes befall two disks that are alike.
func TestAlikeOnDisksThatAreAlike(t *testing.T) {
	for _, g := range some() {
		one, two := waiting(t, sectors(g)), waiting(t, sectors(g))
		format(t, one, g)
		format(t, two, g)
		if !told(t, one).as(told(t, two)) {
			t.Errorf("%v: other writes, or other flushes", g)
		}
	}
}

// R3, R1: what no call made does not make one panic either.
func TestZeroDisk(t *testing.T) {
	var d disk.Disk
	if code := mkfs.Format(&d, geo(1, 4, 16)); code != api.ErrOff {
		t.Errorf("Format: %d", code)
	}
}

// R5: the calls may be made from several goroutines at one time, each with a disk of its own.
func TestSideBySide(t *testing.T) {
	g := geo(3, 12, 40)
	want := byHand(t, g)
	var all sync.WaitGroup
	for range 8 {
		all.Go(func() {
			for range 30 {
				d := disk.New(sectors(g))
				if code := mkfs.Format(d, g); code != api.OK || !same(d.Image(), want) {
					t.Errorf("Format: %d", code)
				}
				if !same(mkfs.Image(g), want) || mkfs.Fit(104) != geo(2, 4, 49) {
					t.Error("told otherwise")
				}
			}
		})
	}
	all.Wait()
}
