package group_test

import (
	"bytes"
	"math"
	"testing"

	"purlin/api"
	"purlin/seal"
)

// below tells by hand those of b that are below n, in as few bytes as n numbers take; false, if one is there from n on.
func below(b []byte, n int) ([]byte, bool) {
	var out []byte
	for i := range 8 * len(b) {
		if i < n && i%8 == 0 {
			out = append(out, 0)
		}
		there := b[i/8]>>(i%8)%2 == 1
		if there && i >= n {
			return nil, false
		}
		if there {
			out[i/8] += 1 << (i % 8)
		}
	}
	return out, true
}

// readsByHand asks that Read tells of in, sealed, what the chapter says of so many inodes and blocks.
func readsByHand(t *testing.T, b, in []byte, nodes, count int) {
	t.Helper()
	inodes, inodesOK := below(in[:4], nodes)
	blocks, blocksOK := below(in[4:16], count)
	if !inodesOK || !blocksOK || len(bytes.Trim(in[16:], "\x00")) > 0 {
		answers(t, "sealed", api.ErrForm, b, nodes, count)
		return
	}
	reads(t, b, nodes, count, inodes, blocks)
}

// firstBits holds n numbers that are all there, over so many bytes.
func firstBits(n, size int) []byte {
	b := make([]byte, size)
	for i := range n {
		b[i/8] |= 1 << (i % 8)
	}
	return b
}

// P11.1: Read, of groups of every size, none and all of which is taken: as few bytes as they take.
func TestReadOfEachSize(t *testing.T) {
	zeros := lay(t, []byte{0}, []byte{0, 0})
	for nodes := 4; nodes <= 32; nodes++ {
		for count := 16; count <= 96; count++ {
			inBytes, blockBytes := (nodes+7)/8, (count+7)/8
			reads(t, zeros, nodes, count, make([]byte, inBytes), make([]byte, blockBytes))
			inodes, blocks := firstBits(nodes, inBytes), firstBits(count, blockBytes)
			all := lay(t, inodes, blocks)
			reads(t, all, nodes, count, inodes, blocks)
			if nodes > 4 {
				answers(t, "an inode more", api.ErrForm, all, nodes-1, count)
			}
			if count > 16 {
				answers(t, "a block more", api.ErrForm, all, nodes, count-1)
			}
			if nodes > 4 && count > 16 {
				answers(t, "both more", api.ErrForm, all, nodes-1, count-1)
			}
		}
	}
}

// P11.1: Read, of known sizes: the bytes that are told, counted by hand.
func TestReadOfKnownSizes(t *testing.T) {
	for _, x := range []struct{ nodes, count, inodes, blocks int }{
		{4, 16, 1, 2}, {5, 17, 1, 3}, {7, 23, 1, 3}, {8, 24, 1, 3}, {9, 25, 2, 4}, {16, 32, 2, 4}, {17, 33, 3, 5}, {24, 40, 3, 5},
		{25, 41, 4, 6}, {28, 88, 4, 11}, {31, 89, 4, 12}, {32, 95, 4, 12}, {32, 96, 4, 12}, {4, 96, 1, 12}, {32, 16, 4, 2}, {20, 64, 3, 8},
	} {
		b := lay(t, []byte{0x0A}, []byte{0x34, 0x12})
		inodes, blocks := append([]byte{0x0A}, make([]byte, x.inodes-1)...), append([]byte{0x34, 0x12}, make([]byte, x.blocks-2)...)
		reads(t, b, x.nodes, x.count, inodes, blocks)
	}
}

// P11.1: Read, of each bit of the body, in groups of every size: one just ahead of where they end is told, one just there, or anywhere behind, is ErrForm.
func TestReadOfEachBit(t *testing.T) {
	for bit := range 123 * 8 {
		in := one(bit)
		b := sealed(t, 'G', in)
		if bit >= 16*8 {
			refused(t, "a bit behind", b)
			continue
		}
		for nodes := 4; nodes <= 32; nodes++ {
			for count := 16; count <= 96; count++ {
				readsByHand(t, b, in, nodes, count)
			}
		}
	}
}

// P11.1: Read, of bits about the ends of known groups, by hand.
func TestReadOfBitsAboutTheEnd(t *testing.T) {
	for _, x := range []struct {
		nodes, count, at int
		x                byte
		ok               bool
	}{
		{4, 16, 0, 0x08, true}, {4, 16, 0, 0x10, false}, {4, 16, 0, 0x80, false}, {4, 16, 1, 0x01, false}, {4, 16, 3, 0x80, false},
		{4, 16, 5, 0x80, true}, {4, 16, 6, 0x01, false}, {4, 16, 15, 0x80, false}, {4, 16, 16, 0x01, false},
		{8, 24, 0, 0x80, true}, {8, 24, 1, 0x01, false}, {8, 24, 6, 0x80, true}, {8, 24, 7, 0x01, false},
		{13, 41, 1, 0x10, true}, {13, 41, 1, 0x20, false}, {13, 41, 2, 0x01, false}, {13, 41, 9, 0x01, true}, {13, 41, 9, 0x02, false}, {13, 41, 10, 0x01, false},
		{31, 95, 3, 0x40, true}, {31, 95, 3, 0x80, false}, {31, 95, 15, 0x40, true}, {31, 95, 15, 0x80, false},
		{32, 96, 3, 0x80, true}, {32, 96, 15, 0x80, true}, {32, 96, 16, 0x01, false}, {32, 96, 122, 0x80, false},
	} {
		in := make([]byte, 123)
		in[x.at] = x.x
		b := sealed(t, 'G', in)
		if !x.ok {
			answers(t, "a bit", api.ErrForm, b, x.nodes, x.count)
			continue
		}
		reads(t, b, x.nodes, x.count, in[:(x.nodes+7)/8], in[4:4+(x.count+7)/8])
	}
}

// P11.1: Read, of each byte at each place of the body, sealed anew, over bits of several grounds.
func TestReadOfEachByte(t *testing.T) {
	for _, ground := range [][]byte{make([]byte, 123), body(full(4), full(12)), body([]byte{0x0F}, full(2)), body([]byte{0xFF, 0x1F}, []byte{0, 1, 2, 3, 4, 1})} {
		for at := range 123 {
			for x := range 256 {
				in := bytes.Clone(ground)
				in[at] = byte(x)
				b := sealed(t, 'G', in)
				for _, size := range [][2]int{{4, 16}, {13, 41}, {32, 96}, {31, 95}, {4, 96}, {32, 16}} {
					readsByHand(t, b, in, size[0], size[1])
				}
			}
		}
	}
}

// P11.1: Read, of numbers of inodes and blocks about their bounds, either by itself and both: ErrArg, also of bytes that are no group's bits.
func TestReadOfSizesThatMayNotBe(t *testing.T) {
	good, torn, other := lay(t, []byte{1}, []byte{2, 3}), lay(t, []byte{1}, []byte{2, 3}), sealed(t, 'S', body([]byte{1}, []byte{2, 3}))
	torn[50]++
	beyond := lay(t, full(4), full(12))
	for nodes := -40; nodes <= 140; nodes++ {
		for count := -40; count <= 140; count++ {
			if nodes >= 4 && nodes <= 32 && count >= 16 && count <= 96 {
				continue
			}
			for _, b := range [][]byte{good, torn, other, beyond, nil, {}, good[:127], make([]byte, 128)} {
				answers(t, "a size", api.ErrArg, b, nodes, count)
			}
		}
	}
}

// P11.1: Read, of numbers far away, also such as fewer bits would make one that may be.
func TestReadOfSizesFarAway(t *testing.T) {
	good := lay(t, []byte{1}, []byte{2, 3})
	for _, x := range []int{
		math.MinInt, math.MinInt + 1, math.MinInt + 16, math.MinInt32, math.MinInt32 - 1, -1 << 32, -1<<32 + 16, -65536, -65520, -256, -240, -96, -32, -16, -4,
		128, 144, 255, 256, 260, 272, 288, 352, 1000, 65536, 65552, 1<<31 + 16, 1<<32 + 16, 1<<32 + 32, 1<<35 + 16, 1<<62 + 16, math.MaxInt - 7, math.MaxInt - 1, math.MaxInt,
	} {
		for _, b := range [][]byte{good, nil, make([]byte, 128)} {
			answers(t, "far inodes", api.ErrArg, b, x, 16)
			answers(t, "far blocks", api.ErrArg, b, 4, x)
			answers(t, "both far", api.ErrArg, b, x, x)
			answers(t, "both far", api.ErrArg, b, x, 97)
			answers(t, "both far", api.ErrArg, b, 3, x)
		}
	}
}

// P11.1: Read of bytes of another length, whole ones ahead of them or behind them too.
func TestReadOfAnotherLength(t *testing.T) {
	whole := lay(t, []byte{9}, []byte{8, 7})
	refused(t, "nil", nil)
	refused(t, "none", []byte{})
	for n := range whole {
		refused(t, "too short", whole[:n])
		refused(t, "too short", whole[n+1:])
	}
	refused(t, "one more", append(bytes.Clone(whole), 0))
	refused(t, "one ahead", append([]byte{'G'}, whole...))
	refused(t, "twice", append(bytes.Clone(whole), whole...))
	refused(t, "the body alone", body([]byte{9}, []byte{8, 7}))
	for _, n := range []int{1, 4, 12, 16, 123, 124, 127, 128, 129, 256, 4096} {
		refused(t, "zeros", make([]byte, n))
		refused(t, "full bytes", full(n))
	}
}

// P11.1: Read of a sector of every other kind, whose body would do; of kind 0 too, its sum right.
func TestReadOfAnotherKind(t *testing.T) {
	in := body([]byte{9}, []byte{8, 7})
	for kind := 1; kind < 256; kind++ {
		b := sealed(t, byte(kind), in)
		if kind == 'G' {
			reads(t, b, 4, 16, []byte{9}, []byte{8, 7})
			continue
		}
		refused(t, "kind", b)
	}
	b := append([]byte{0}, in...)
	sum := seal.Sum(b)
	refused(t, "kind 0", append(b, byte(sum>>24), byte(sum>>16), byte(sum>>8), byte(sum)))
}

// P11.1: Read of a sector in which a bit was changed, its sum not.
func TestReadOfOneThatIsNotWhole(t *testing.T) {
	for _, x := range known() {
		for i := range len(x.sector) * 8 {
			b := bytes.Clone(x.sector)
			b[i/8] ^= 1 << (i % 8)
			refused(t, "a bit", b)
		}
	}
}

// P11.1: Read of a sector of which a part is of other bits, as when the power goes within a write.
func TestReadOfHalves(t *testing.T) {
	ahead, rest := lay(t, []byte{5}, []byte{6, 7}), lay(t, []byte{9}, []byte{10, 11})
	for n := range 129 {
		b := append(bytes.Clone(ahead[:n]), rest[n:]...)
		switch {
		case bytes.Equal(b, ahead):
			reads(t, b, 4, 16, []byte{5}, []byte{6, 7})
		case bytes.Equal(b, rest):
			reads(t, b, 4, 16, []byte{9}, []byte{10, 11})
		default:
			refused(t, "halves", b)
		}
	}
}

// P11.1: Read, of every byte behind the bits that is no zero, sealed anew, and of a body that Seal fills with zeros.
func TestReadOfBytesBehind(t *testing.T) {
	for _, inodes := range [][]byte{{0}, {0x0F}} {
		in := body(inodes, []byte{8, 7})
		for at := 16; at < 123; at++ {
			for x := 1; x < 256; x++ {
				odd := bytes.Clone(in)
				odd[at] = byte(x)
				refused(t, "behind", sealed(t, 'G', odd))
			}
		}
		reads(t, sealed(t, 'G', in[:16]), 4, 16, inodes, []byte{8, 7})
		reads(t, sealed(t, 'G', in[:6]), 32, 96, append(bytes.Clone(inodes), 0, 0, 0), append([]byte{8, 7}, make([]byte, 10)...))
	}
}

// P11.1: Read, of what Lay laid, in a group too small for it: Lay asks for no size, Read does.
func TestReadOfASmallerGroup(t *testing.T) {
	b := lay(t, []byte{0x10}, []byte{0, 0, 1})
	reads(t, b, 5, 17, []byte{0x10}, []byte{0, 0, 1})
	reads(t, b, 32, 96, []byte{0x10, 0, 0, 0}, append([]byte{0, 0, 1}, make([]byte, 9)...))
	answers(t, "inodes", api.ErrForm, b, 4, 17)
	answers(t, "blocks", api.ErrForm, b, 5, 16)
	answers(t, "both", api.ErrForm, b, 4, 16)
	// The place of the blocks hangs on no size: bits of inodes are never taken for such of blocks.
	reads(t, sealed(t, 'G', []byte{0, 0, 0, 0, 1}), 4, 16, []byte{0}, []byte{1, 0})
	answers(t, "behind the inodes", api.ErrForm, sealed(t, 'G', []byte{0, 1}), 8, 96)
}
