package seal_test

import (
	"bytes"
	"slices"
	"sync"
	"testing"

	"purlin/api"
	"purlin/seal"
)

// counting holds n bytes that rise from 0 on.
func counting(n int) []byte {
	b := make([]byte, n)
	for i := range b {
		b[i] = byte(i)
	}
	return b
}

// filled holds n bytes x.
func filled(x byte, n int) []byte {
	return bytes.Repeat([]byte{x}, n)
}

// sector lays one out by hand: the kind, the body, zeros, and the sum as it is told.
func sector(kind byte, body []byte, sum ...byte) []byte {
	b := make([]byte, 124, 128)
	b[0] = kind
	copy(b[1:], body)
	return append(b, sum...)
}

// known holds sealed sectors whose sums were worked out by another program.
func known() []struct {
	kind         byte
	body, sector []byte
} {
	return []struct {
		kind         byte
		body, sector []byte
	}{
		{1, nil, sector(1, nil, 0x06, 0x65, 0xBC, 0x3F)},
		{1, []byte{}, sector(1, nil, 0x06, 0x65, 0xBC, 0x3F)},
		{1, []byte{0, 1}, sector(1, []byte{0, 1}, 0x73, 0xBD, 0xFC, 0xBF)},
		{'D', nil, sector('D', nil, 0x36, 0xF8, 0x1B, 0xDA)},
		{'D', []byte("purlin"), sector('D', []byte("purlin"), 0x13, 0x6F, 0xCB, 0x19)},
		{'S', counting(123), sector('S', counting(123), 0x37, 0xD8, 0xC2, 0x26)},
		{255, filled(255, 123), sector(255, filled(255, 123), 0x47, 0xA6, 0xF1, 0xE5)},
	}
}

// refused asks all that must be so of what is no sealed sector.
func refused(t *testing.T, what string, b []byte) {
	t.Helper()
	if got := seal.Kind(b); got != 0 {
		t.Errorf("%s: Kind: %d", what, got)
	}
	for kind := range 256 {
		if body, code := seal.Open(byte(kind), b); code != api.ErrForm || len(body) != 0 {
			t.Fatalf("%s: Open(%d): %v, %d", what, kind, body, code)
		}
	}
}

// P2.1: Sum, of any count of bytes; the values were worked out by another program.
func TestSum(t *testing.T) {
	for _, x := range []struct {
		b    []byte
		want uint32
	}{
		{nil, 0x1FF249C1}, {[]byte{}, 0x1FF249C1},
		{[]byte{0}, 0x5F421FEA}, {[]byte{0, 0}, 0xDBEE2B27}, {[]byte{255}, 0xEED8C7CE},
		{[]byte("a"), 0x043C095D}, {[]byte("ab"), 0xD9126225}, {[]byte("ba"), 0xA34042E3}, {[]byte("purlin"), 0xDB6C357A},
		{make([]byte, 124), 0x0769AB4B}, {counting(256), 0xDC84EBFF}, {filled(255, 1000), 0xBF1CB054},
	} {
		if got := seal.Sum(x.b); got != x.want {
			t.Errorf("Sum of %d bytes %.8x: %08X, not %08X", len(x.b), x.b, got, x.want)
		}
	}
}

// P2.1: Sum, by the words of the chapter, of many lengths.
func TestSumByTheWords(t *testing.T) {
	for n := range 300 {
		b := counting(n)
		register := uint64(0x811C9DC5)
		for _, x := range b {
			register = (register ^ uint64(x)) * 0x01000193 % (1 << 32)
		}
		register = (register ^ register>>15) * 0x85EBCA6B % (1 << 32)
		register ^= register >> 13
		if got := seal.Sum(b); uint64(got) != register {
			t.Fatalf("Sum of %d bytes: %08X, not %08X", n, got, register)
		}
	}
}

// P2.1: Seal, Open and Kind, of sectors that are known byte by byte.
func TestKnownSectors(t *testing.T) {
	for i, x := range known() {
		b, code := seal.Seal(x.kind, x.body)
		if code != api.OK || !bytes.Equal(b, x.sector) {
			t.Errorf("Seal, the %d-th: %x, %d", i, b, code)
		}
		if got := seal.Kind(x.sector); got != x.kind {
			t.Errorf("Kind, the %d-th: %d", i, got)
		}
		body, code := seal.Open(x.kind, x.sector)
		if code != api.OK || !bytes.Equal(body, x.sector[1:124]) {
			t.Errorf("Open, the %d-th: %x, %d", i, body, code)
		}
	}
}

// P2.1: a body of every length; one past the limit is refused, and so is the kind 0.
func TestSealOfEveryLength(t *testing.T) {
	for n := range 300 {
		body := filled('x', n)
		if b, code := seal.Seal(0, body); code != api.ErrArg || len(b) != 0 {
			t.Errorf("kind 0, %d bytes: %v, %d", n, b, code)
		}
		b, code := seal.Seal('D', body)
		if n > api.BodySize {
			if code != api.ErrArg || len(b) != 0 {
				t.Errorf("%d bytes: %v, %d", n, b, code)
			}
			continue
		}
		if code != api.OK || len(b) != api.SectorSize {
			t.Fatalf("%d bytes: %d bytes, %d", n, len(b), code)
		}
		got, code := seal.Open('D', b)
		want := append(filled('x', n), make([]byte, api.BodySize-n)...)
		if code != api.OK || !bytes.Equal(got, want) {
			t.Errorf("%d bytes: opened %q, %d", n, got, code)
		}
	}
}

// P2.1: every kind is opened as itself, and as no other.
func TestEveryKind(t *testing.T) {
	for kind := 1; kind < 256; kind++ {
		b, code := seal.Seal(byte(kind), []byte("body"))
		if code != api.OK || len(b) != api.SectorSize || b[0] != byte(kind) || seal.Kind(b) != byte(kind) {
			t.Fatalf("kind %d: %x, %d, Kind: %d", kind, b, code, seal.Kind(b))
		}
		for as := range 256 {
			body, code := seal.Open(byte(as), b)
			if as == kind && (code != api.OK || len(body) != api.BodySize) || as != kind && (code != api.ErrForm || len(body) != 0) {
				t.Fatalf("kind %d as %d: %x, %d", kind, as, body, code)
			}
		}
	}
}

// P2.1: what has another size is no sealed sector, whatever it begins or ends with.
func TestOtherSizes(t *testing.T) {
	whole, _ := seal.Seal('D', []byte("purlin"))
	refused(t, "nil", nil)
	refused(t, "no byte", []byte{})
	for n := 1; n < api.SectorSize; n++ {
		refused(t, "the first bytes", whole[:n])
		refused(t, "the last bytes", whole[n:])
	}
	refused(t, "a byte behind", append(slices.Clone(whole), 0))
	refused(t, "a byte ahead", append([]byte{'D'}, whole...))
	refused(t, "twice", append(slices.Clone(whole), whole...))
	// A body with one byte less or more, and the sum that fits it.
	for _, n := range []int{0, 122, 124} {
		b := append([]byte{'D'}, counting(n)...)
		sum := seal.Sum(b)
		refused(t, "a body of another size", append(b, byte(sum>>24), byte(sum>>16), byte(sum>>8), byte(sum)))
	}
}

// P2.1: one bit that is another one, anywhere, is told.
func TestEveryBit(t *testing.T) {
	for _, x := range known() {
		for at := range len(x.sector) {
			for bit := range 8 {
				b := slices.Clone(x.sector)
				b[at] ^= 1 << bit
				refused(t, "a bit changed", b)
			}
		}
	}
}

// P2.1: sums that are nearly right.
func TestOtherSums(t *testing.T) {
	refused(t, "zeros", make([]byte, api.SectorSize))
	refused(t, "ones", filled(255, api.SectorSize))
	// The sum is right, but 0 is no kind.
	refused(t, "kind 0", sector(0, nil, 0x07, 0x69, 0xAB, 0x4B))
	refused(t, "the lowest first", sector('D', nil, 0xDA, 0x1B, 0xF8, 0x36))
	refused(t, "the sum of another kind", sector('D', nil, 0x06, 0x65, 0xBC, 0x3F))
	refused(t, "no sum", sector('D', []byte("purlin"), 0, 0, 0, 0))
	body := seal.Sum([]byte("purlin"))
	refused(t, "the sum of the body alone", sector('D', []byte("purlin"), byte(body>>24), byte(body>>16), byte(body>>8), byte(body)))
}

// P2.1: what is handed in stays as it was, its spare room too.
func TestHandedInStays(t *testing.T) {
	room := counting(400)
	was := slices.Clone(room)
	seal.Sum(room[:50])
	seal.Seal('D', room[:50])
	seal.Seal('D', room[:300])
	seal.Open('D', room[:50])
	seal.Open(0, room[:128])
	seal.Kind(room[:128])
	copy(room, known()[4].sector)
	copy(was, known()[4].sector)
	seal.Open('D', room[:128])
	seal.Kind(room[:128])
	if !bytes.Equal(room, was) {
		t.Errorf("changed: %x", room)
	}
}

// P2.1: an answer shares no memory with what was handed in, nor with another answer.
func TestAnswersAreNew(t *testing.T) {
	body := counting(api.BodySize)
	one, _ := seal.Seal('S', body)
	two, _ := seal.Seal('S', body)
	clear(body)
	first, _ := seal.Open('S', one)
	second, _ := seal.Open('S', one)
	// Spare room is memory, too.
	clear(first[:cap(first)])
	if !bytes.Equal(one, two) || !bytes.Equal(second, counting(api.BodySize)) {
		t.Errorf("shared: %x, %x", one, second)
	}
	clear(one[:cap(one)])
	if !bytes.Equal(second, counting(api.BodySize)) || seal.Kind(two) != 'S' {
		t.Errorf("shared: %x, %x", two, second)
	}
}

// P2.1: several goroutines may call at one time, with the same bytes.
func TestFromSeveralGoroutines(t *testing.T) {
	x := known()[4]
	var all sync.WaitGroup
	for range 8 {
		all.Add(1)
		go func() {
			defer all.Done()
			for range 200 {
				b, _ := seal.Seal(x.kind, x.body)
				body, _ := seal.Open(x.kind, x.sector)
				if !bytes.Equal(b, x.sector) || !bytes.Equal(body, x.sector[1:124]) || seal.Kind(x.sector) != x.kind || seal.Sum(x.body) != 0xDB6C357A {
					t.Error("another answer")
					return
				}
			}
		}()
	}
	all.Wait()
}
