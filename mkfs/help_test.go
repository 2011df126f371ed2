package mkfs_test

import (
	"bytes"
	"math"
	"slices"
	"testing"

	"purlin/api"
	"purlin/disk"
	"purlin/mkfs"
	"purlin/seal"
)

// geo makes a geometry.
func geo(groups, inodes, blocks int) api.Geometry {
	return api.Geometry{Groups: groups, Inodes: inodes, Blocks: blocks}
}

// all tells every geometry that may be, by the words of DOC.md's limits.
func all() []api.Geometry {
	var gs []api.Geometry
	for groups := 1; groups <= 8; groups++ {
		for inodes := 4; inodes <= 32; inodes += 4 {
			for blocks := 16; blocks <= 96; blocks++ {
				gs = append(gs, geo(groups, inodes, blocks))
			}
		}
	}
	return gs
}

// some tells geometries at each edge of what may be, and between.
func some() []api.Geometry {
	return []api.Geometry{
		geo(1, 4, 16), geo(1, 4, 96), geo(1, 32, 16), geo(1, 32, 96), geo(8, 4, 16), geo(8, 4, 96), geo(8, 32, 16), geo(8, 32, 96),
		geo(1, 4, 17), geo(1, 8, 16), geo(2, 8, 20), geo(3, 12, 40), geo(7, 28, 95), geo(4, 24, 63),
	}
}

// none tells geometries that may not be: by one bound, by the fours, by all at once, and such as wrap round, or would be one that may be if they were cut to fewer bits.
func none() []api.Geometry {
	gs := []api.Geometry{
		{}, geo(0, 4, 16), geo(9, 4, 16), geo(-1, 4, 16), geo(1, 0, 16), geo(1, 36, 16), geo(1, -4, 16), geo(8, 33, 96), geo(1, 4, 15), geo(8, 32, 97), geo(1, 4, 0), geo(1, 4, -16),
		geo(1, 3, 16), geo(1, 5, 16), geo(1, 6, 16), geo(1, 7, 16), geo(1, 9, 16), geo(1, 31, 16), geo(9, 36, 97), geo(0, 0, 15), geo(-1, -4, -16),
		geo(257, 4, 16), geo(1, 260, 16), geo(1, 4, 272), geo(1<<32+1, 4, 16), geo(1, 1<<32+4, 16), geo(1, 4, 1<<32+16),
	}
	for _, x := range []int{math.MinInt, math.MinInt + 1, math.MaxInt, math.MaxInt - 3} {
		gs = append(gs, geo(x, 4, 16), geo(1, x, 16), geo(1, 4, x), geo(x, x, x))
	}
	return gs
}

// sectors tells how many sectors a file system of g takes, by the words of chapter 5.
func sectors(g api.Geometry) int {
	return 2 + g.Groups*(1+g.Inodes/4+g.Blocks)
}

// sealed tells a sealed sector of a body, zeros behind it.
func sealed(t *testing.T, kind byte, body ...byte) []byte {
	t.Helper()
	b, code := seal.Seal(kind, body)
	if code != api.OK {
		t.Fatalf("Seal(%d, %v): %d", kind, body, code)
	}
	return b
}

// byHand lays the image of a new file system of g a byte at a time, one sector behind the other, by the words of the chapters.
func byHand(t *testing.T, g api.Geometry) [][]byte {
	t.Helper()
	image := [][]byte{sealed(t, 'S', 'P', 'R', 'L', 1, byte(g.Groups), byte(g.Inodes), byte(g.Blocks), 1), sealed(t, 'R')}
	for k := range g.Groups {
		bits := sealed(t, 'G')
		if k == 0 {
			bits = sealed(t, 'G', 1)
		}
		image = append(image, bits)
		for i := range g.Inodes / 4 {
			inodes := sealed(t, 'I')
			if k == 0 && i == 0 {
				inodes = sealed(t, 'I', 2, 0, 1)
			}
			image = append(image, inodes)
		}
		for range g.Blocks {
			image = append(image, make([]byte, 128))
		}
	}
	return image
}

// same tells whether two images are alike.
func same(a, b [][]byte) bool {
	return slices.EqualFunc(a, b, bytes.Equal)
}

// fill tells a sector whose bytes tell where they stand, other ones for each seed, and none of which is 0.
func fill(seed int) []byte {
	b := make([]byte, 128)
	for i := range b {
		b[i] = byte(1 + (i*7+seed*31+seed/8)%255)
	}
	return b
}

// used makes a disk that has other bytes in each sector.
func used(t *testing.T, sectors int) *disk.Disk {
	t.Helper()
	var image [][]byte
	for at := range sectors {
		image = append(image, fill(at))
	}
	d := disk.Load(image...)
	if d == nil {
		t.Fatalf("no disk of %d sectors", sectors)
	}
	return d
}

// read tells what can be read of a disk, firm or not.
func read(t *testing.T, d *disk.Disk) [][]byte {
	t.Helper()
	var image [][]byte
	for at := range d.Sectors() {
		b, code := d.Read(at)
		if code != api.OK {
			t.Fatalf("Read(%d): %d", at, code)
		}
		image = append(image, b)
	}
	return image
}

// format formats, and wants it to go well.
func format(t *testing.T, d *disk.Disk, g api.Geometry) {
	t.Helper()
	if code := mkfs.Format(d, g); code != api.OK {
		t.Fatalf("Format(%v): %d", g, code)
	}
}

// boot lets the power come again.
func boot(t *testing.T, d *disk.Disk) {
	t.Helper()
	if code := d.Boot(); code != api.OK {
		t.Fatalf("Boot: %d", code)
	}
}

// newly asks that the disk, which has power, is that of a new file system of g, all of it firm.
func newly(t *testing.T, what string, d *disk.Disk, g api.Geometry) {
	t.Helper()
	want := byHand(t, g)
	if !d.On() {
		t.Fatalf("%s: %v: the power is off", what, g)
	}
	if !same(read(t, d), want) {
		t.Fatalf("%s: %v: it does not read as a new one", what, g)
	}
	if !same(d.Image(), want) || len(d.Waiting()) != 0 {
		t.Fatalf("%s: %v: not all is firm: %v waits", what, g, d.Waiting())
	}
}

// state is all that can be told of a disk.
type state struct {
	on             bool
	firm, reads    [][]byte
	waits, written []int
	flushes        int
}

// told tells the state of a disk.
func told(t *testing.T, d *disk.Disk) state {
	t.Helper()
	s := state{on: d.On(), firm: d.Image(), waits: d.Waiting(), written: d.Writes(), flushes: d.Flushes()}
	if s.on {
		s.reads = read(t, d)
	}
	return s
}

// as tells whether two states are alike.
func (s state) as(o state) bool {
	return s.on == o.on && same(s.firm, o.firm) && same(s.reads, o.reads) && slices.Equal(s.waits, o.waits) && slices.Equal(s.written, o.written) && s.flushes == o.flushes
}

// keeps tells lists by which a crash lets some of what waits last: nothing, all, by turns, and such as are longer.
func keeps() [][]bool {
	return [][]bool{nil, {false}, {true}, {true, false}, {false, true}, {false, false, true}, {true, true, false, true, false}}
}
