package inode_test

import (
	"bytes"
	"math"
	"sync"
	"testing"

	"purlin/api"
	"purlin/inode"
	"purlin/seal"
)

// four is what a sector holds.
type four = [4]api.Inode

// of makes an inode, its pointers one behind the other: the direct ones, Single, Double.
func of(kind, links, size int, pointers ...int) api.Inode {
	i := api.Inode{Kind: kind, Links: links, Size: size}
	for k, p := range pointers {
		*pointer(&i, k) = p
	}
	return i
}

// pointer is where the k-th pointer of i is kept: the six direct ones, Single, Double.
func pointer(i *api.Inode, k int) *int {
	switch k {
	case 6:
		return &i.Single
	case 7:
		return &i.Double
	}
	return &i.Direct[k]
}

// eight tells one number eight times: of each pointer.
func eight(p int) []int {
	return []int{p, p, p, p, p, p, p, p}
}

// may are inodes that may be: free, each kind, the least and the greatest of each number.
func may() []api.Inode {
	l := []api.Inode{
		{},
		of(1, 0, 0), of(2, 0, 0), of(3, 0, 0),
		of(1, 65535, 20736, eight(65535)...), of(2, 65535, 20736, eight(65535)...), of(3, 65535, 20736, eight(65535)...),
		of(1, 1, 1, 1), of(2, 1, 256, 258, 259), of(3, 1, 100, 77),
		of(1, 255, 255), of(1, 256, 256), of(1, 257, 257), of(2, 32767, 20735), of(2, 32768, 128), of(2, 65534, 20735), of(3, 0, 20736), of(3, 65535, 0),
		of(1, 2, 4660, 257, 514, 771, 1028, 1285, 1542, 1800, 2314),
	}
	for k := range 8 {
		for _, p := range []int{1, 255, 256, 32767, 32768, 65534, 65535} {
			i := of(1, 1, 128)
			*pointer(&i, k) = p
			l = append(l, i)
		}
	}
	return l
}

// far are numbers that nothing of an inode may be: also such as fewer bits would make one that may.
func far() []int {
	return []int{
		-1, -2, -128, -255, -256, -65535, -65536, -1 << 31, -1<<31 + 1, -1 << 32, -1<<32 + 1, math.MinInt, math.MinInt + 1,
		65536, 65537, 131072, 1 << 24, math.MaxInt32, 1 << 31, 1<<32 - 1, 1 << 32, 1<<32 + 1, 1<<40 + 1, 1 << 48, 1 << 62, math.MaxInt - 1, math.MaxInt,
	}
}

// none are inodes that may not be, each by one number alone, but for those of no kind.
func none() []api.Inode {
	l := []api.Inode{of(0, 1, 0), of(0, 0, 1), of(0, 1, 1, 1), of(0, 65535, 20736, eight(65535)...)}
	for k := range 8 {
		i := api.Inode{}
		*pointer(&i, k) = 1
		l = append(l, i)
	}
	for _, x := range append(far(), 4, 5, 128, 255, 256, 257, 258, 259) {
		l = append(l, of(x, 1, 128, 9), of(x, 0, 0))
	}
	for _, x := range append(far(), 20737, 20738, 20863, 20864, 32768, 65535) {
		l = append(l, of(1, 1, x, 9))
	}
	for _, x := range far() {
		l = append(l, of(2, x, 128, 9))
		for k := range 8 {
			i := of(3, 1, 100, 9)
			*pointer(&i, k) = x
			l = append(l, i)
		}
	}
	return l
}

// two spells a number by two bytes, the highest first.
func two(n int) []byte {
	return []byte{byte(n / 256), byte(n)}
}

// bytesOf spells an inode as the chapter tells it.
func bytesOf(i api.Inode) []byte {
	b := append([]byte{byte(i.Kind)}, two(i.Links)...)
	b = append(b, two(i.Size/65536)...)
	b = append(b, two(i.Size)...)
	for k := range 8 {
		b = append(b, two(*pointer(&i, k))...)
	}
	return b
}

// body lays out by hand the body of a sector, with zeros to its end.
func body(is four) []byte {
	var b []byte
	for _, i := range is {
		b = append(b, bytesOf(i)...)
	}
	return append(b, make([]byte, 123-len(b))...)
}

// sealed seals a body, whatever stands in it.
func sealed(t *testing.T, kind byte, body []byte) []byte {
	t.Helper()
	b, code := seal.Seal(kind, body)
	if code != api.OK {
		t.Fatalf("Seal(%d, %v): %d", kind, body, code)
	}
	return b
}

// lay lays a sector of inodes that may be.
func lay(t *testing.T, is four) []byte {
	t.Helper()
	b, code := inode.Lay(is)
	if code != api.OK || len(b) != 128 {
		t.Fatalf("Lay(%v): %d bytes, %d", is, len(b), code)
	}
	return b
}

// reads asks that b tells just these.
func reads(t *testing.T, b []byte, is four) {
	t.Helper()
	if got, code := inode.Read(b); got != is || code != api.OK {
		t.Errorf("Read: %v, %d, not %v", got, code, is)
	}
}

// refused asks that b is no sector of inodes: beside the code all is zero.
func refused(t *testing.T, what string, b []byte) {
	t.Helper()
	if got, code := inode.Read(b); got != (four{}) || code != api.ErrForm {
		t.Errorf("%s: Read: %v, %d", what, got, code)
	}
}

// some are four inodes unlike one another.
func some() four {
	return four{of(1, 2, 4660, 257, 514, 771, 1028, 1285, 1542, 1800, 2314), {}, of(2, 1, 256, 258), of(3, 65535, 20736, eight(65535)...)}
}

// known holds sectors whose sums were worked out by another program.
func known() []struct {
	is     four
	sector []byte
} {
	file := of(1, 2, 0x1234, 0x0101, 0x0202, 0x0303, 0x0404, 0x0505, 0x0606, 0x0708, 0x090A)
	bare := of(1, 0, 0)
	full := of(3, 65535, 20736, eight(65535)...)
	folder := of(2, 1, 256, 258)
	fileBytes := "\x01\x00\x02\x00\x00\x12\x34\x01\x01\x02\x02\x03\x03\x04\x04\x05\x05\x06\x06\x07\x08\x09\x0A"
	fullBytes := "\x03\xFF\xFF\x00\x00\x51\x00\xFF\xFF\xFF\xFF\xFF\xFF\xFF\xFF\xFF\xFF\xFF\xFF\xFF\xFF\xFF\xFF"
	folderBytes := "\x02\x00\x01\x00\x00\x01\x00\x01\x02" + string(make([]byte, 14))
	bareBytes := "\x01" + string(make([]byte, 22))
	free := string(make([]byte, 23))
	return []struct {
		is     four
		sector []byte
	}{
		{four{}, sector("", 0xA9, 0x26, 0x03, 0xBB)},
		{four{file}, sector(fileBytes, 0xA3, 0x8F, 0x40, 0x04)},
		{four{{}, bare, folder, full}, sector(free+bareBytes+folderBytes+fullBytes, 0x48, 0xB2, 0x40, 0x11)},
		{four{full, full, full, full}, sector(fullBytes+fullBytes+fullBytes+fullBytes, 0xFA, 0x0D, 0x72, 0x17)},
		{four{folder, file, bare, {}}, sector(folderBytes+fileBytes+bareBytes, 0x2D, 0x4A, 0xAF, 0x28)},
	}
}

// sector lays one out by hand: the kind, the body, zeros, and the sum as it is told.
func sector(body string, sum ...byte) []byte {
	b := make([]byte, 124, 128)
	b[0] = 'I'
	copy(b[1:], body)
	return append(b, sum...)
}

// P7.1: May: free, each kind, each number's least and greatest; and what lies past them.
func TestMay(t *testing.T) {
	for _, i := range may() {
		if !inode.May(i) {
			t.Errorf("May(%v): false", i)
		}
	}
	for _, i := range none() {
		if inode.May(i) {
			t.Errorf("May(%v): true", i)
		}
	}
}

// P7.1: May, of every number about the bounds, by each of the numbers apart.
func TestMayOfEachNumber(t *testing.T) {
	for x := -300; x < 70000; x++ {
		for _, c := range []struct {
			what string
			i    api.Inode
			want bool
		}{
			{"Kind", of(x, 1, 128), x >= 1 && x <= 3},
			{"Kind alone", of(x, 0, 0), x >= 0 && x <= 3},
			{"Links", of(1, x, 128), x >= 0 && x <= 65535},
			{"Links alone", of(0, x, 0), x == 0},
			{"Size", of(2, 1, x), x >= 0 && x <= 20736},
			{"Size alone", of(0, 0, x), x == 0},
		} {
			if inode.May(c.i) != c.want {
				t.Fatalf("May, by %s %d: %v", c.what, x, !c.want)
			}
		}
		for k := range 8 {
			i, free := of(3, 1, 100), api.Inode{}
			*pointer(&i, k), *pointer(&free, k) = x, x
			if inode.May(i) != (x >= 0 && x <= 65535) || inode.May(free) != (x == 0) {
				t.Fatalf("May, by the %d-th pointer %d: %v, %v", k, x, inode.May(i), inode.May(free))
			}
		}
	}
}

// P7.1: Lay, of known sectors.
func TestLay(t *testing.T) {
	for _, x := range known() {
		if got := lay(t, x.is); !bytes.Equal(got, x.sector) {
			t.Errorf("Lay(%v): %v", x.is, got)
		}
	}
}

// P7.1: Read, of known sectors.
func TestRead(t *testing.T) {
	for _, x := range known() {
		reads(t, x.sector, x.is)
	}
}

// P7.1: Lay and Read, of each inode that may be at each of the four places, byte by byte.
func TestEachPlace(t *testing.T) {
	for _, i := range may() {
		for k := range 4 {
			for _, is := range []four{{}, some()} {
				is[k] = i
				b := lay(t, is)
				if in, code := seal.Open('I', b); code != api.OK || !bytes.Equal(in, body(is)) {
					t.Errorf("Lay(%v): %v", is, b)
				}
				reads(t, b, is)
			}
		}
	}
}

// P7.1: Lay and Read, of each number that a pointer, Links and Size may be.
func TestEachNumber(t *testing.T) {
	for x := range 65536 {
		is := four{of(1, x, x%20737, x), of(2, 65535-x, 0, 0, x, 0, 0, 0, 0, x), of(3, 0, 20736-x%20737, 0, 0, x, 0, x, 0, 0, x), of(1, 1, 1, 0, 0, 0, x, 0, x)}
		b := lay(t, is)
		if !bytes.Equal(b[1:124], body(is)) {
			t.Fatalf("Lay(%v): %v", is, b)
		}
		if got, code := inode.Read(b); got != is || code != api.OK {
			t.Fatalf("Read: %v, %d, not %v", got, code, is)
		}
	}
}

// P7.1: Lay, of an inode that may not be at each of the four places, the others free or not.
func TestLayRefuses(t *testing.T) {
	for _, i := range none() {
		for k := range 4 {
			for _, is := range []four{{}, some(), {i, i, i, i}} {
				is[k] = i
				if b, code := inode.Lay(is); b != nil || code != api.ErrArg {
					t.Errorf("Lay(%v): %v, %d", is, b, code)
				}
			}
		}
	}
}

// P7.1: Read of bytes of another length, whole ones ahead of them or behind them too.
func TestReadOfAnotherLength(t *testing.T) {
	whole := lay(t, some())
	refused(t, "nil", nil)
	refused(t, "none", []byte{})
	for n := range whole {
		refused(t, "too short", whole[:n])
		refused(t, "too short", whole[n+1:])
	}
	refused(t, "one more", append(bytes.Clone(whole), 0))
	refused(t, "one ahead", append([]byte{'I'}, whole...))
	refused(t, "twice", append(bytes.Clone(whole), whole...))
	refused(t, "the body alone", body(some()))
	for _, n := range []int{1, 23, 92, 123, 127, 128, 129, 256, 4096} {
		refused(t, "zeros", make([]byte, n))
		refused(t, "ones", bytes.Repeat([]byte{1}, n))
	}
}

// P7.1: Read of a sector of every other kind, whose body would do.
func TestReadOfAnotherKind(t *testing.T) {
	for kind := 1; kind < 256; kind++ {
		for _, is := range []four{{}, some()} {
			b := sealed(t, byte(kind), body(is))
			if kind == 'I' {
				reads(t, b, is)
				continue
			}
			refused(t, "kind", b)
		}
	}
}

// P7.1: Read of a sector in which a bit was changed, its sum not.
func TestReadOfOneThatIsNotWhole(t *testing.T) {
	for _, is := range []four{{}, some()} {
		whole := lay(t, is)
		for i := range len(whole) * 8 {
			b := bytes.Clone(whole)
			b[i/8] ^= 1 << (i % 8)
			refused(t, "a bit", b)
		}
	}
}

// P7.1: Read, of every byte at every place of each inode, sealed anew: it is told if it may be, else it is ErrForm.
func TestReadOfEachByte(t *testing.T) {
	for _, whole := range []four{{}, some(), {of(2, 1, 20736, 9), of(3, 1, 20736, 9), of(1, 1, 20736, 9), of(1, 1, 20736, 9)}} {
		for at := range 92 {
			for x := range 256 {
				in := body(whole)
				in[at] = byte(x)
				want := whole
				want[at/23] = unspelled(in[at/23*23:])
				if byHand(want[at/23]) {
					reads(t, sealed(t, 'I', in), want)
					continue
				}
				refused(t, "a byte", sealed(t, 'I', in))
			}
		}
	}
}

// unspelled tells the inode that b begins with, by hand.
func unspelled(b []byte) api.Inode {
	i := of(int(b[0]), int(b[1])*256+int(b[2]), int(b[3])*16777216+int(b[4])*65536+int(b[5])*256+int(b[6]))
	for k := range 8 {
		*pointer(&i, k) = int(b[7+2*k])*256 + int(b[8+2*k])
	}
	return i
}

// byHand tells whether an inode that was spelled may be.
func byHand(i api.Inode) bool {
	return i == (api.Inode{}) || i.Kind >= 1 && i.Kind <= 3 && i.Size >= 0 && i.Size <= 20736
}

// P7.1: Read, of bytes behind the four inodes that are no zeros.
func TestReadOfBytesBehind(t *testing.T) {
	for _, is := range []four{{}, some()} {
		for at := 92; at < 123; at++ {
			for x := 1; x < 256; x++ {
				in := body(is)
				in[at] = byte(x)
				refused(t, "behind", sealed(t, 'I', in))
			}
		}
		in := append(body(is)[:92], bytesOf(of(1, 1, 1))...)
		refused(t, "a fifth one", sealed(t, 'I', in))
		reads(t, sealed(t, 'I', body(is)[:92]), is)
	}
}

// P7.1: Read, of each of the sizes that may not be, those of all four bytes too, at each of the four places.
func TestReadOfSizes(t *testing.T) {
	for _, size := range []uint32{20735, 20736, 20737, 20991, 20992, 65535, 65536, 65536 + 128, 1 << 24, 1<<24 + 1, 1<<31 - 1, 1 << 31, 1<<31 + 1, 1<<32 - 1} {
		for k := range 4 {
			for kind := range 4 {
				is := some()
				is[k] = of(kind, 1, 0, 9)
				in := body(is)
				for i := range 4 {
					in[23*k+3+i] = byte(size >> (24 - 8*i))
				}
				if kind > 0 && size <= 20736 {
					is[k].Size = int(size)
					reads(t, sealed(t, 'I', in), is)
					continue
				}
				refused(t, "a size", sealed(t, 'I', in))
			}
		}
	}
}

// P7.1: Need, of known sizes: below 1, just so many blocks, one byte more or less, MaxFile and beyond.
func TestNeed(t *testing.T) {
	for size, want := range map[int]int{
		math.MinInt: 0, math.MinInt + 1: 0, -1 << 32: 0, -20736: 0, -129: 0, -128: 0, -127: 0, -1: 0, 0: 0,
		1: 1, 2: 1, 127: 1, 128: 1, 129: 2, 255: 2, 256: 2, 257: 3,
		767: 6, 768: 6, 769: 7, 2303: 18, 2304: 18, 2305: 19, 20607: 161, 20608: 161, 20609: 162, 20735: 162, 20736: 162,
		20737: 162, 20864: 162, 20865: 162, 1 << 31: 162, 1 << 32: 162, 1<<32 + 1: 162, math.MaxInt - 127: 162, math.MaxInt - 126: 162, math.MaxInt - 1: 162, math.MaxInt: 162,
	} {
		if got := inode.Need(size); got != want {
			t.Errorf("Need(%d): %d, not %d", size, got, want)
		}
	}
}

// P7.1: Need, of every size of a file, and of some on either side: counted byte by byte.
func TestNeedOfEachSize(t *testing.T) {
	blocks := 0
	for size := 1; size <= 20736; size++ {
		if size%128 == 1 {
			blocks++
		}
		if got := inode.Need(size); got != blocks {
			t.Fatalf("Need(%d): %d, not %d", size, got, blocks)
		}
	}
	for x := range 1000 {
		if inode.Need(-x) != 0 || inode.Need(20736+x) != 162 {
			t.Fatalf("Need of %d, %d: %d, %d", -x, 20736+x, inode.Need(-x), inode.Need(20736+x))
		}
	}
}

// P7.2: Place, of the first and the last block of the direct ones, of Single and of Double, and of each pointer block behind Double.
func TestPlace(t *testing.T) {
	for k, want := range map[int][3]int{
		0: {0, 0, 0}, 1: {0, 1, 0}, 5: {0, 5, 0},
		6: {1, 0, 0}, 7: {1, 1, 0}, 17: {1, 11, 0},
		18: {2, 0, 0}, 19: {2, 0, 1}, 29: {2, 0, 11}, 30: {2, 1, 0}, 41: {2, 1, 11}, 42: {2, 2, 0}, 149: {2, 10, 11}, 150: {2, 11, 0}, 161: {2, 11, 11},
	} {
		if a, b, c := inode.Place(k); ([3]int{a, b, c}) != want {
			t.Errorf("Place(%d): %d, %d, %d, not %v", k, a, b, c, want)
		}
	}
}

// P7.2: Place, of every block of a file, one behind the other.
func TestPlaceOfEach(t *testing.T) {
	k := 0
	next := func(want ...int) {
		t.Helper()
		if a, b, c := inode.Place(k); a != want[0] || b != want[1] || c != want[2] {
			t.Errorf("Place(%d): %d, %d, %d, not %v", k, a, b, c, want)
		}
		k++
	}
	for i := range 6 {
		next(0, i, 0)
	}
	for i := range 12 {
		next(1, i, 0)
	}
	for i := range 12 {
		for j := range 12 {
			next(2, i, j)
		}
	}
	for range 1000 {
		next(-1, -1, -1)
	}
}

// P7.2: Place, of blocks that there are not: below the first, behind the last, far away.
func TestNoSuchBlock(t *testing.T) {
	l := append(far(), 162, 163, 173, 174, 175, 306, 1000, 20736, -3, -6, -12, -18, -100, -161, -162, -163, math.MinInt+18, math.MaxInt-18)
	for _, k := range l {
		if a, b, c := inode.Place(k); a != -1 || b != -1 || c != -1 {
			t.Errorf("Place(%d): %d, %d, %d", k, a, b, c)
		}
	}
}

// R4, R5: what is answered is new each time, what is handed in stays as it is, its spare room too.
func TestNothingIsShared(t *testing.T) {
	is := some()
	first := lay(t, is)
	want := bytes.Clone(first)
	for i := range first[:cap(first)] {
		first[:cap(first)][i] = 0xEE
	}
	if !bytes.Equal(lay(t, is), want) || is != some() {
		t.Error("Lay: another answer was changed")
	}
	room := append(bytes.Clone(want), bytes.Repeat([]byte{0xAB}, 40)...)
	all := bytes.Clone(room)
	reads(t, room[:128], is)
	refused(t, "with the room", room)
	if !bytes.Equal(room, all) {
		t.Error("Read changed what it was handed")
	}
}

// R5: several goroutines may lay and read at one time, each its own.
func TestFromSeveralGoroutines(t *testing.T) {
	var all sync.WaitGroup
	for k := range 8 {
		all.Add(1)
		go func() {
			defer all.Done()
			for i := range 200 {
				is := four{of(1, k, i, 8*i+k), {}, of(2, i, k), of(3, 1, 100, eight(200*k+i)...)}
				b, code := inode.Lay(is)
				if got, read := inode.Read(b); code != api.OK || read != api.OK || got != is {
					t.Errorf("%v: %v, %d, %d", is, got, code, read)
					return
				}
			}
		}()
	}
	all.Wait()
}
