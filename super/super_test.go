package super_test

import (
	"bytes"
	"math"
	"slices"
	"sync"
	"testing"

	"purlin/api"
	"purlin/seal"
	"purlin/super"
)

// geo makes a geometry.
func geo(groups, inodes, blocks int) api.Geometry {
	return api.Geometry{Groups: groups, Inodes: inodes, Blocks: blocks}
}

// sector lays one out by hand: the kind, the body, zeros, and the sum as it is told.
func sector(body string, sum ...byte) []byte {
	b := make([]byte, 124, 128)
	b[0] = 'S'
	copy(b[1:], body)
	return append(b, sum...)
}

// sealed seals a body, whatever stands in it.
func sealed(t *testing.T, kind byte, body []byte) []byte {
	t.Helper()
	b, code := seal.Seal(kind, body)
	if code != api.OK {
		t.Fatalf("Seal(%d, %v): %d", kind, body, code)
	}
	return b
}

// body lays out by hand what a superblock's body is, with zeros to its end.
func body(groups, inodes, blocks, ordered byte) []byte {
	b := make([]byte, 123)
	copy(b, []byte{80, 82, 76, 1, groups, inodes, blocks, ordered})
	return b
}

// known holds superblocks whose sums were worked out by another program.
func known() []struct {
	g       api.Geometry
	ordered bool
	sector  []byte
} {
	return []struct {
		g       api.Geometry
		ordered bool
		sector  []byte
	}{
		{geo(1, 4, 16), true, sector("PRL\x01\x01\x04\x10\x01", 0x98, 0xBB, 0x2D, 0x61)},
		{geo(1, 4, 16), false, sector("PRL\x01\x01\x04\x10\x00", 0x72, 0x9F, 0x7D, 0x2B)},
		{geo(8, 32, 96), true, sector("PRL\x01\x08\x20\x60\x01", 0x4D, 0x60, 0xF8, 0x71)},
		{geo(8, 32, 96), false, sector("PRL\x01\x08\x20\x60\x00", 0xBA, 0x52, 0xA2, 0x6A)},
		{geo(3, 12, 40), true, sector("PRL\x01\x03\x0C\x28\x01", 0xA7, 0xA5, 0x28, 0x6C)},
	}
}

// lay lays a superblock of a geometry that may be.
func lay(t *testing.T, g api.Geometry, ordered bool) []byte {
	t.Helper()
	b, code := super.Lay(g, ordered)
	if code != api.OK || len(b) != 128 {
		t.Fatalf("Lay(%v, %v): %d bytes, %d", g, ordered, len(b), code)
	}
	return b
}

// reads asks that b tells just this.
func reads(t *testing.T, b []byte, g api.Geometry, ordered bool) {
	t.Helper()
	if got, is, code := super.Read(b); got != g || is != ordered || code != api.OK {
		t.Errorf("Read: %v, %v, %d, not %v, %v", got, is, code, g, ordered)
	}
}

// refused asks that b is no superblock: beside the code all is zero.
func refused(t *testing.T, what string, b []byte) {
	t.Helper()
	if g, ordered, code := super.Read(b); g != (api.Geometry{}) || ordered || code != api.ErrForm {
		t.Errorf("%s: Read: %v, %v, %d", what, g, ordered, code)
	}
}

// may tells by the words of DOC.md's limits whether there may be such a geometry.
func may(groups, inodes, blocks int) bool {
	return slices.Contains([]int{1, 2, 3, 4, 5, 6, 7, 8}, groups) &&
		slices.Contains([]int{4, 8, 12, 16, 20, 24, 28, 32}, inodes) && blocks >= 16 && blocks <= 96
}

// P6.1: Lay and Read, of known sectors: the least and the greatest geometry, left in order and not.
func TestKnown(t *testing.T) {
	for _, x := range known() {
		if got := lay(t, x.g, x.ordered); !bytes.Equal(got, x.sector) {
			t.Errorf("Lay(%v, %v): %v", x.g, x.ordered, got)
		}
		reads(t, x.sector, x.g, x.ordered)
	}
}

// P6.1: Lay and Read, of every geometry that may be, byte by byte.
func TestEveryGeometry(t *testing.T) {
	for groups := 1; groups <= 8; groups++ {
		for inodes := 4; inodes <= 32; inodes += 4 {
			for blocks := 16; blocks <= 96; blocks++ {
				for i, ordered := range []bool{false, true} {
					b := lay(t, geo(groups, inodes, blocks), ordered)
					in, code := seal.Open('S', b)
					if code != api.OK || !bytes.Equal(in, body(byte(groups), byte(inodes), byte(blocks), byte(i))) {
						t.Fatalf("Lay(%d, %d, %d, %v): %v", groups, inodes, blocks, ordered, b)
					}
					reads(t, b, geo(groups, inodes, blocks), ordered)
				}
			}
		}
	}
}

// P6.1: Lay of a geometry that may not be: by one bound, by the fours, and such as a byte would make one that may be.
func TestLayRefuses(t *testing.T) {
	none := []api.Geometry{
		{}, geo(0, 4, 16), geo(9, 4, 16), geo(1, 0, 16), geo(1, 3, 16), geo(1, 5, 16), geo(1, 6, 16), geo(1, 7, 16), geo(8, 33, 96), geo(8, 36, 96),
		geo(1, 4, 15), geo(8, 32, 97), geo(-1, 4, 16), geo(1, -4, 16), geo(1, 4, -16), geo(0, 0, 0), geo(9, 36, 97),
		geo(257, 4, 16), geo(1, 260, 16), geo(1, 4, 272), geo(-255, 4, 16), geo(1, -252, 16), geo(1, 4, -240), geo(1<<32+1, 4, 16), geo(1, 1<<32+4, 16), geo(1, 4, 1<<32+16),
	}
	for _, x := range []int{math.MinInt, math.MinInt + 1, math.MaxInt, math.MaxInt - 3} {
		none = append(none, geo(x, 4, 16), geo(1, x, 16), geo(1, 4, x), geo(x, x, x))
	}
	for _, g := range none {
		for _, ordered := range []bool{false, true} {
			if b, code := super.Lay(g, ordered); b != nil || code != api.ErrArg {
				t.Errorf("Lay(%v, %v): %v, %d", g, ordered, b, code)
			}
		}
	}
}

// P6.1: Read of bytes of another length, whole ones ahead of them or behind them too.
func TestReadOfAnotherLength(t *testing.T) {
	whole := lay(t, geo(3, 12, 40), true)
	refused(t, "nil", nil)
	refused(t, "none", []byte{})
	for n := range whole {
		refused(t, "too short", whole[:n])
		refused(t, "too short", whole[n+1:])
	}
	refused(t, "one more", append(bytes.Clone(whole), 0))
	refused(t, "one ahead", append([]byte{'S'}, whole...))
	refused(t, "twice", append(bytes.Clone(whole), whole...))
	for _, n := range []int{1, 127, 128, 129, 256, 4096} {
		refused(t, "zeros", make([]byte, n))
		refused(t, "ones", bytes.Repeat([]byte{1}, n))
	}
}

// P6.1: Read of a sector of every other kind, whose body would do.
func TestReadOfAnotherKind(t *testing.T) {
	for kind := 1; kind < 256; kind++ {
		b := sealed(t, byte(kind), body(1, 4, 16, 1))
		if kind == 'S' {
			reads(t, b, geo(1, 4, 16), true)
			continue
		}
		refused(t, "kind", b)
	}
}

// P6.1: Read of a sector in which a bit was changed, its sum not.
func TestReadOfOneThatIsNotWhole(t *testing.T) {
	whole := lay(t, geo(8, 32, 96), true)
	for i := range len(whole) * 8 {
		b := bytes.Clone(whole)
		b[i/8] ^= 1 << (i % 8)
		refused(t, "a bit", b)
	}
}

// P6.1: Read, of every byte at every place of the body that has one thing to be: the letters, the byte 1, the zeros behind.
func TestReadOfEachByte(t *testing.T) {
	for _, ordered := range []byte{0, 1} {
		whole := body(1, 4, 16, ordered)
		for i := range whole {
			if i >= 4 && i <= 7 {
				continue
			}
			for x := range 256 {
				in := bytes.Clone(whole)
				in[i] = byte(x)
				if byte(x) == whole[i] {
					reads(t, sealed(t, 'S', in), geo(1, 4, 16), ordered == 1)
					continue
				}
				refused(t, "a byte", sealed(t, 'S', in))
			}
		}
	}
}

// P6.1: Read, of every three bytes of a geometry about the bounds, and each byte by itself: what may be is told, else ErrForm.
func TestReadOfEachGeometry(t *testing.T) {
	ask := func(groups, inodes, blocks int) {
		t.Helper()
		b := sealed(t, 'S', body(byte(groups), byte(inodes), byte(blocks), 1))
		if may(groups, inodes, blocks) {
			reads(t, b, geo(groups, inodes, blocks), true)
			return
		}
		refused(t, "a geometry", b)
	}
	for x := range 256 {
		ask(x, 4, 16)
		ask(1, x, 16)
		ask(8, 32, x)
		ask(x, x, x)
	}
	for groups := range 11 {
		for inodes := range 38 {
			for blocks := 14; blocks < 99; blocks++ {
				ask(groups, inodes, blocks)
			}
		}
	}
}

// P6.1: Read, of every last byte of the body: 1 is in order, 0 is not, else ErrForm.
func TestReadOfEachOrder(t *testing.T) {
	for x := range 256 {
		b := sealed(t, 'S', body(8, 4, 96, byte(x)))
		if x < 2 {
			reads(t, b, geo(8, 4, 96), x == 1)
			continue
		}
		refused(t, "an order", b)
	}
}

// R4, R5: what is answered is new each time, what is handed in stays as it is, its spare room too.
func TestNothingIsShared(t *testing.T) {
	first := lay(t, geo(2, 8, 20), true)
	want := bytes.Clone(first)
	for i := range first {
		first[i] = 0xEE
	}
	if !bytes.Equal(lay(t, geo(2, 8, 20), true), want) {
		t.Error("Lay: another answer was changed")
	}
	room := append(bytes.Clone(want), bytes.Repeat([]byte{0xAB}, 40)...)
	all := bytes.Clone(room)
	reads(t, room[:128], geo(2, 8, 20), true)
	refused(t, "with the room", room)
	if !bytes.Equal(room, all) {
		t.Error("Read changed what it was handed")
	}
}

// R5: several goroutines may lay and read at one time, each its own.
func TestFromSeveralGoroutines(t *testing.T) {
	var all sync.WaitGroup
	for k := range 8 {
		all.Add(1)
		go func() {
			defer all.Done()
			for i := range 200 {
				g, ordered := geo(k+1, 4*(k+1), 16+i%81), i%2 == 0
				b, code := super.Lay(g, ordered)
				if got, is, read := super.Read(b); code != api.OK || read != api.OK || got != g || is != ordered {
					t.Errorf("%v, %v: %v, %v, %d, %d", g, ordered, got, is, code, read)
					return
				}
			}
		}()
	}
	all.Wait()
}
