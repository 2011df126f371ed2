package group_test

import (
	"bytes"
	"slices"
	"sync"
	"testing"

	"purlin/api"
	"purlin/group"
	"purlin/seal"
)

// counting holds n bytes that rise from x on.
func counting(x byte, n int) []byte {
	b := make([]byte, n)
	for i := range b {
		b[i] = x + byte(i)
	}
	return b
}

// full holds n bytes in which every number is there.
func full(n int) []byte {
	return bytes.Repeat([]byte{255}, n)
}

// sector lays one out by hand: the kind, the bits, zeros, and the sum as it is told.
func sector(bits string, sum ...byte) []byte {
	b := make([]byte, 124, 128)
	b[0] = 'G'
	copy(b[1:], bits)
	return append(b, sum...)
}

// body lays out by hand what a group's body is, with zeros to its end.
func body(inodes, blocks []byte) []byte {
	b := make([]byte, 123)
	copy(b[:4], inodes)
	copy(b[4:16], blocks)
	return b
}

// one is the body of a group in which just the number of that bit is there.
func one(bit int) []byte {
	b := make([]byte, 123)
	b[bit/8] = 1 << (bit % 8)
	return b
}

// known holds groups whose sums were worked out by another program: the bits, of how many inodes and blocks, and the sector.
func known() []struct {
	inodes, blocks []byte
	nodes, count   int
	sector         []byte
} {
	return []struct {
		inodes, blocks []byte
		nodes, count   int
		sector         []byte
	}{
		{[]byte{0}, []byte{0, 0}, 4, 16, sector("", 0x71, 0x7D, 0xCE, 0x0E)},
		{[]byte{1}, []byte{1, 0}, 4, 16, sector("\x01\x00\x00\x00\x01", 0xBC, 0x1C, 0x81, 0x7C)},
		{[]byte{0x0F}, full(2), 4, 16, sector("\x0F\x00\x00\x00\xFF\xFF", 0x4E, 0xB5, 0xCC, 0x15)},
		{[]byte{5}, []byte{3, 0x80}, 5, 16, sector("\x05\x00\x00\x00\x03\x80", 0xB7, 0xCB, 0xD7, 0x63)},
		{full(4), full(12), 32, 96, sector("\xFF\xFF\xFF\xFF\xFF\xFF\xFF\xFF\xFF\xFF\xFF\xFF\xFF\xFF\xFF\xFF", 0xF8, 0xCF, 0xDC, 0x52)},
		{counting(1, 4), counting(5, 12), 27, 93, sector("\x01\x02\x03\x04\x05\x06\x07\x08\x09\x0A\x0B\x0C\x0D\x0E\x0F\x10", 0xC7, 0x0F, 0x1B, 0x2E)},
		{[]byte{0x81, 0x42, 0x24, 0x18}, []byte{0x34, 0x12}, 29, 16, sector("\x81\x42\x24\x18\x34\x12", 0x60, 0x70, 0x8D, 0x4E)},
		{[]byte{7}, counting(0xA1, 12), 4, 96, sector("\x07\x00\x00\x00\xA1\xA2\xA3\xA4\xA5\xA6\xA7\xA8\xA9\xAA\xAB\xAC", 0x33, 0x7E, 0xA3, 0x13)},
		{[]byte{0xFF, 3}, []byte{0xFE, 0xFF, 0x1F}, 10, 21, sector("\xFF\x03\x00\x00\xFE\xFF\x1F", 0x21, 0x05, 0x13, 0xC5)},
		{[]byte{0x80, 8}, []byte{0, 0, 0x10, 0, 1}, 12, 33, sector("\x80\x08\x00\x00\x00\x00\x10\x00\x01", 0x74, 0x27, 0x57, 0xE3)},
	}
}

// sealed seals a body, whatever stands in it.
func sealed(t *testing.T, kind byte, body []byte) []byte {
	t.Helper()
	b, code := seal.Seal(kind, body)
	if code != api.OK {
		t.Fatalf("Seal(%d, %v): %d", kind, body, code)
	}
	return b
}

// lay lays bits that may be.
func lay(t *testing.T, inodes, blocks []byte) []byte {
	t.Helper()
	b, code := group.Lay(inodes, blocks)
	if code != api.OK || len(b) != 128 {
		t.Fatalf("Lay(%v, %v): %d bytes, %d", inodes, blocks, len(b), code)
	}
	return b
}

// laidRight asks that Lay lays what it is handed, byte by byte.
func laidRight(t *testing.T, inodes, blocks []byte) {
	t.Helper()
	b := lay(t, inodes, blocks)
	if in, code := seal.Open('G', b); code != api.OK || !bytes.Equal(in, body(inodes, blocks)) {
		t.Errorf("Lay(%v, %v): %v", inodes, blocks, b)
	}
}

// reads asks that b, of so many inodes and blocks, tells just these bits.
func reads(t *testing.T, b []byte, nodes, count int, inodes, blocks []byte) {
	t.Helper()
	gotInodes, gotBlocks, code := group.Read(b, nodes, count)
	if code != api.OK || !bytes.Equal(gotInodes, inodes) || !bytes.Equal(gotBlocks, blocks) {
		t.Errorf("Read of %d, %d: %v, %v, %d, not %v, %v", nodes, count, gotInodes, gotBlocks, code, inodes, blocks)
	}
}

// answers asks that Read answers just that code: beside it there is nothing.
func answers(t *testing.T, what string, want api.Errno, b []byte, nodes, count int) {
	t.Helper()
	if inodes, blocks, code := group.Read(b, nodes, count); inodes != nil || blocks != nil || code != want {
		t.Errorf("%s: Read of %d, %d: %v, %v, %d", what, nodes, count, inodes, blocks, code)
	}
}

// refused asks that b holds no group's bits, be the group the smallest, the greatest, or one between.
func refused(t *testing.T, what string, b []byte) {
	t.Helper()
	for _, x := range [][2]int{{4, 16}, {4, 96}, {32, 16}, {32, 96}, {13, 41}} {
		answers(t, what, api.ErrForm, b, x[0], x[1])
	}
}

// P11.1: Lay, of known bits.
func TestLay(t *testing.T) {
	for _, x := range known() {
		if got := lay(t, x.inodes, x.blocks); !bytes.Equal(got, x.sector) {
			t.Errorf("Lay(%v, %v): %v", x.inodes, x.blocks, got)
		}
	}
}

// P11.1: Read, of known sectors.
func TestRead(t *testing.T) {
	for _, x := range known() {
		reads(t, x.sector, x.nodes, x.count, x.inodes, x.blocks)
	}
}

// P11.1: Lay, of bits of every length, either by itself and both: 1 to 4 bytes and 2 to 12 are laid, zeros behind fewer; others are refused, both at once too.
func TestLayOfEachLength(t *testing.T) {
	for n := range 40 {
		for m := range 40 {
			for _, x := range []byte{0, 1, 0x80, 0xFF} {
				inodes, blocks := bytes.Repeat([]byte{x}, n), bytes.Repeat([]byte{^x}, m)
				if n >= 1 && n <= 4 && m >= 2 && m <= 12 {
					laidRight(t, inodes, blocks)
					continue
				}
				notLaid(t, inodes, blocks)
			}
		}
	}
}

// notLaid asks that Lay refuses these bits: beside the code there is nothing.
func notLaid(t *testing.T, inodes, blocks []byte) {
	t.Helper()
	if b, code := group.Lay(inodes, blocks); b != nil || code != api.ErrArg {
		t.Errorf("Lay of %d, %d bytes: %v, %d", len(inodes), len(blocks), b, code)
	}
}

// P11.1: Lay, of no bits, and of far too many, also such as fewer bits would make a length that may be.
func TestLayRefuses(t *testing.T) {
	for _, none := range [][]byte{nil, {}} {
		for m := range 14 {
			notLaid(t, none, make([]byte, m))
		}
		for n := range 6 {
			notLaid(t, make([]byte, n), none)
		}
		notLaid(t, none, nil)
	}
	for _, n := range []int{16, 32, 96, 107, 108, 119, 123, 124, 128, 255, 256, 257, 258, 260, 268, 65537, 65538, 65540, 1 << 20} {
		notLaid(t, full(n), full(2))
		notLaid(t, full(1), full(n))
		notLaid(t, full(n), full(n))
	}
}

// P11.1: Lay and Read, of each byte at each place.
func TestEachByte(t *testing.T) {
	for x := range 256 {
		for at := range 16 {
			bits := counting(1, 16)
			bits[at] = byte(x)
			inodes, blocks := bits[:4], bits[4:]
			laidRight(t, inodes, blocks)
			reads(t, lay(t, inodes, blocks), 32, 96, inodes, blocks)
		}
	}
}

// P11.1: Lay takes bits of as few bytes as they need, and of more, for the same, and hangs on nothing behind them.
func TestLayOfFewerBytes(t *testing.T) {
	want := lay(t, []byte{9, 0, 0, 0}, []byte{8, 7, 0, 0, 0, 0, 0, 0, 0, 0, 0, 0})
	for n := 1; n <= 4; n++ {
		for m := 2; m <= 12; m++ {
			inodes, blocks := full(40), full(40)
			copy(inodes, append([]byte{9}, make([]byte, n-1)...))
			copy(blocks, append([]byte{8, 7}, make([]byte, m-2)...))
			if got := lay(t, inodes[:n], blocks[:m]); !bytes.Equal(got, want) {
				t.Errorf("Lay of %d, %d bytes: %v", n, m, got)
			}
		}
	}
}

// R4: what is handed in stays as it is, its spare room too, be it laid, read or refused.
func TestHandedInStays(t *testing.T) {
	for n := range 8 {
		for m := range 16 {
			inodes, blocks := counting(3, 50), counting(90, 50)
			group.Lay(inodes[:n], blocks[:m])
			if !bytes.Equal(inodes, counting(3, 50)) || !bytes.Equal(blocks, counting(90, 50)) {
				t.Fatalf("Lay of %d, %d bytes changed what it was handed", n, m)
			}
		}
	}
	whole := append(lay(t, []byte{9, 1}, []byte{8, 7, 6}), full(40)...)
	room := slices.Clone(whole)
	for _, x := range [][2]int{{9, 19}, {32, 96}, {4, 16}, {3, 19}, {9, 97}} {
		group.Read(room[:128], x[0], x[1])
		group.Read(room, x[0], x[1])
		group.Read(room[:50], x[0], x[1])
	}
	if !bytes.Equal(room, whole) {
		t.Error("Read changed what it was handed")
	}
}

// R4: what Lay answers shares no memory with what it was handed, nor with another answer.
func TestLaidIsNew(t *testing.T) {
	inodes, blocks := full(4), full(12)
	first, second := lay(t, inodes, blocks), lay(t, inodes, blocks)
	want := bytes.Clone(second)
	spoil(inodes)
	spoil(blocks)
	if !bytes.Equal(first, want) {
		t.Error("Lay: its answer is what it was handed")
	}
	spoil(first)
	if !bytes.Equal(second, want) || !bytes.Equal(lay(t, full(4), full(12)), want) {
		t.Error("Lay: another answer was changed")
	}
}

// R4: what Read answers shares no memory with what it was handed, nor one list with the other, nor with another answer.
func TestReadIsNew(t *testing.T) {
	for _, x := range known() {
		b := slices.Clone(x.sector)
		one, two, _ := group.Read(b, x.nodes, x.count)
		three, four, _ := group.Read(b, x.nodes, x.count)
		spoil(b)
		if !bytes.Equal(one, x.inodes) || !bytes.Equal(two, x.blocks) {
			t.Fatal("Read: its answer is what it was handed")
		}
		spoil(one)
		if !bytes.Equal(two, x.blocks) || !bytes.Equal(three, x.inodes) || !bytes.Equal(four, x.blocks) {
			t.Fatal("Read: another list was changed by that of the inodes")
		}
		spoil(two)
		if !bytes.Equal(three, x.inodes) || !bytes.Equal(four, x.blocks) {
			t.Fatal("Read: another list was changed by that of the blocks")
		}
		reads(t, x.sector, x.nodes, x.count, x.inodes, x.blocks)
	}
}

// spoil changes all of b, its spare room too.
func spoil(b []byte) {
	for i := range b[:cap(b)] {
		b[:cap(b)][i] ^= 0x5A
	}
}

// R5: several goroutines may lay and read at one time, each its own, and all the same bytes.
func TestFromSeveralGoroutines(t *testing.T) {
	x := known()[8]
	var all sync.WaitGroup
	for k := range 8 {
		all.Add(1)
		go func() {
			defer all.Done()
			for i := range 200 {
				inodes, blocks := counting(byte(i), 1+k%4), counting(byte(k), 2+i%11)
				b, code := group.Lay(inodes, blocks)
				gotInodes, gotBlocks, read := group.Read(b, 8*len(inodes), 8*len(blocks))
				if code != api.OK || read != api.OK || !bytes.Equal(gotInodes, inodes) || !bytes.Equal(gotBlocks, blocks) {
					t.Errorf("%v, %v: %v, %v, %d, %d", inodes, blocks, gotInodes, gotBlocks, code, read)
					return
				}
				if same, _, code := group.Read(x.sector, x.nodes, x.count); code != api.OK || !bytes.Equal(same, x.inodes) {
					t.Errorf("another answer: %v, %d", same, code)
					return
				}
			}
		}()
	}
	all.Wait()
}
