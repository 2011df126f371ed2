package ptr_test

import (
	"bytes"
	"math"
	"sync"
	"testing"

	"purlin/api"
	"purlin/ptr"
	"purlin/seal"
)

// twelve is what a block holds.
type twelve = [12]int

// all tells one pointer twelve times.
func all(p int) twelve {
	var ps twelve
	for k := range ps {
		ps[k] = p
	}
	return ps
}

// some are twelve pointers unlike one another, both bytes of each too.
func some() twelve {
	return twelve{0x0102, 0x0304, 0x0506, 0x0708, 0x090A, 0x0B0C, 0x0D0E, 0x0F10, 0x1112, 0x1314, 0x1516, 0x1718}
}

// bounds are pointers that may be: the least, the greatest, and those about a byte's end and a sign's.
func bounds() []int {
	return []int{0, 1, 2, 127, 128, 254, 255, 256, 257, 511, 512, 32767, 32768, 32769, 65279, 65280, 65534, 65535}
}

// far are numbers that no pointer may be: also such as fewer bits would make one that may.
func far() []int {
	return []int{
		-1, -2, -128, -255, -256, -32768, -65535, -65536, -65537, -1 << 31, -1<<31 + 1, -1 << 32, -1<<32 + 1, -1 << 48, math.MinInt, math.MinInt + 1,
		65536, 65537, 65536 + 255, 131071, 131072, 1 << 24, math.MaxInt32, 1 << 31, 1<<32 - 1, 1 << 32, 1<<32 + 1, 1<<40 + 1, 1 << 48, 1 << 62, math.MaxInt - 1, math.MaxInt,
	}
}

// body lays out by hand the body of a block, with zeros to its end.
func body(ps twelve) []byte {
	b := make([]byte, 0, 123)
	for _, p := range ps {
		b = append(b, byte(p/256), byte(p%256))
	}
	return append(b, make([]byte, 99)...)
}

// block lays one out by hand: the kind, the pointers' bytes, zeros, and the sum as it is told.
func block(pointers string, sum ...byte) []byte {
	b := make([]byte, 124, 128)
	b[0] = 'P'
	copy(b[1:], pointers)
	return append(b, sum...)
}

// known holds blocks whose sums were worked out by another program.
func known() []struct {
	ps    twelve
	block []byte
} {
	rest := string(make([]byte, 22))
	return []struct {
		ps    twelve
		block []byte
	}{
		{twelve{}, block("", 0x3A, 0x21, 0xFA, 0x60)},
		{all(65535), block(string(bytes.Repeat([]byte{0xFF}, 24)), 0x5F, 0x43, 0x7B, 0x04)},
		{some(), block("\x01\x02\x03\x04\x05\x06\x07\x08\x09\x0A\x0B\x0C\x0D\x0E\x0F\x10\x11\x12\x13\x14\x15\x16\x17\x18", 0x58, 0xD8, 0xDC, 0xB1)},
		{twelve{1}, block("\x00\x01"+rest, 0xE2, 0xF4, 0xFF, 0x9D)},
		{twelve{11: 65535}, block(rest+"\xFF\xFF", 0xFB, 0xDB, 0x9B, 0x3D)},
		{
			twelve{0, 30, 0, 255, 256, 0, 32767, 32768, 0, 65534, 0, 300},
			block("\x00\x00\x00\x1E\x00\x00\x00\xFF\x01\x00\x00\x00\x7F\xFF\x80\x00\x00\x00\xFF\xFE\x00\x00\x01\x2C", 0x3A, 0xC2, 0x05, 0x1D),
		},
	}
}

// sealed seals a body, whatever stands in it.
func sealed(t *testing.T, kind byte, body []byte) []byte {
	t.Helper()
	b, code := seal.Seal(kind, body)
	if code != api.OK {
		t.Fatalf("Seal(%d, %v): %d", kind, body, code)
	}
	return b
}

// lay lays a block of pointers that may be.
func lay(t *testing.T, ps twelve) []byte {
	t.Helper()
	b, code := ptr.Lay(ps)
	if code != api.OK || len(b) != 128 {
		t.Fatalf("Lay(%v): %d bytes, %d", ps, len(b), code)
	}
	return b
}

// reads asks that b tells just these.
func reads(t *testing.T, b []byte, ps twelve) {
	t.Helper()
	if got, code := ptr.Read(b); got != ps || code != api.OK {
		t.Errorf("Read: %v, %d, not %v", got, code, ps)
	}
}

// refused asks that b is no block of pointers: beside the code all is zero.
func refused(t *testing.T, what string, b []byte) {
	t.Helper()
	if got, code := ptr.Read(b); got != (twelve{}) || code != api.ErrForm {
		t.Errorf("%s: Read: %v, %d", what, got, code)
	}
}

// P8.1: Lay, of known blocks.
func TestLay(t *testing.T) {
	for _, x := range known() {
		if got := lay(t, x.ps); !bytes.Equal(got, x.block) {
			t.Errorf("Lay(%v): %v", x.ps, got)
		}
	}
}

// P8.1: Read, of known blocks.
func TestRead(t *testing.T) {
	for _, x := range known() {
		reads(t, x.block, x.ps)
	}
}

// P8.1: Lay and Read, of each bound at each of the twelve places, byte by byte, whatever the others are.
func TestEachPlace(t *testing.T) {
	for _, p := range bounds() {
		for k := range 12 {
			for _, ps := range []twelve{{}, some(), all(65535)} {
				ps[k] = p
				b := lay(t, ps)
				if in, code := seal.Open('P', b); code != api.OK || !bytes.Equal(in, body(ps)) {
					t.Errorf("Lay(%v): %v", ps, b)
				}
				reads(t, b, ps)
			}
		}
	}
}

// P8.1: Lay and Read, of each number that a pointer may be, at each of the twelve places.
func TestEachNumber(t *testing.T) {
	for x := range 65536 {
		var ps twelve
		for k := range ps {
			ps[k] = (x + 5461*k) % 65536
		}
		b := lay(t, ps)
		if b[0] != 'P' || !bytes.Equal(b[1:124], body(ps)) {
			t.Fatalf("Lay(%v): %v", ps, b)
		}
		if got, code := ptr.Read(b); got != ps || code != api.OK {
			t.Fatalf("Read: %v, %d, not %v", got, code, ps)
		}
	}
}

// P8.1: Lay, of every number about the bounds, at each of the twelve places.
func TestLayAboutTheBounds(t *testing.T) {
	for k := range 12 {
		for x := -300; x < 66000; x++ {
			ps := some()
			ps[k] = x
			b, code := ptr.Lay(ps)
			if may := x >= 0 && x <= 65535; may != (code == api.OK) || may != (len(b) == 128) {
				t.Fatalf("Lay(%v): %d bytes, %d", ps, len(b), code)
			}
		}
	}
}

// P8.1: Lay, of a pointer that may not be at each of the twelve places, the others 0, some, or likewise.
func TestLayRefuses(t *testing.T) {
	for _, p := range far() {
		for k := range 12 {
			for _, ps := range []twelve{{}, some(), all(65535), all(p)} {
				ps[k] = p
				if b, code := ptr.Lay(ps); b != nil || code != api.ErrArg {
					t.Errorf("Lay(%v): %v, %d", ps, b, code)
				}
			}
		}
	}
}

// P8.1: Read of bytes of another length, whole ones ahead of them or behind them too.
func TestReadOfAnotherLength(t *testing.T) {
	whole := lay(t, some())
	refused(t, "nil", nil)
	refused(t, "none", []byte{})
	for n := range whole {
		refused(t, "too short", whole[:n])
		refused(t, "too short", whole[n+1:])
	}
	refused(t, "one more", append(bytes.Clone(whole), 0))
	refused(t, "one ahead", append([]byte{'P'}, whole...))
	refused(t, "twice", append(bytes.Clone(whole), whole...))
	refused(t, "the body alone", body(some()))
	for _, n := range []int{1, 2, 24, 123, 127, 128, 129, 256, 4096} {
		refused(t, "zeros", make([]byte, n))
		refused(t, "ones", bytes.Repeat([]byte{1}, n))
		refused(t, "full bytes", bytes.Repeat([]byte{255}, n))
	}
}

// P8.1: Read of a sector of every other kind, whose body would do; of kind 0 too, its sum right.
func TestReadOfAnotherKind(t *testing.T) {
	for _, ps := range []twelve{{}, some(), all(65535)} {
		for kind := 1; kind < 256; kind++ {
			b := sealed(t, byte(kind), body(ps))
			if kind == 'P' {
				reads(t, b, ps)
				continue
			}
			refused(t, "kind", b)
		}
		refused(t, "kind 0", unkind(ps))
	}
}

// unkind lays out a sector of kind 0 whose sum is right.
func unkind(ps twelve) []byte {
	b := append([]byte{0}, body(ps)...)
	sum := seal.Sum(b)
	return append(b, byte(sum>>24), byte(sum>>16), byte(sum>>8), byte(sum))
}

// P8.1: Read of a block in which a bit was changed, its sum not.
func TestReadOfOneThatIsNotWhole(t *testing.T) {
	for _, ps := range []twelve{{}, some(), all(65535)} {
		whole := lay(t, ps)
		for i := range len(whole) * 8 {
			b := bytes.Clone(whole)
			b[i/8] ^= 1 << (i % 8)
			refused(t, "a bit", b)
		}
	}
}

// P8.1: Read of a block of which a part is of another one, as when the power goes within a write.
func TestReadOfHalves(t *testing.T) {
	old, young := lay(t, some()), lay(t, all(65535))
	for n := 1; n < 128; n++ {
		b := append(bytes.Clone(young[:n]), old[n:]...)
		switch {
		case bytes.Equal(b, old):
			reads(t, b, some())
		case bytes.Equal(b, young):
			reads(t, b, all(65535))
		default:
			refused(t, "halves", b)
		}
	}
}

// P8.1: Read, of every byte at every place of the pointers, sealed anew: each may be.
func TestReadOfEachByte(t *testing.T) {
	for _, whole := range []twelve{{}, some(), all(65535)} {
		for at := range 24 {
			for x := range 256 {
				in, want := body(whole), whole
				in[at] = byte(x)
				want[at/2] = int(in[at/2*2])*256 + int(in[at/2*2+1])
				reads(t, sealed(t, 'P', in), want)
			}
		}
	}
}

// P8.1: Read, of bytes behind the pointers that are no zeros.
func TestReadOfBytesBehind(t *testing.T) {
	for _, ps := range []twelve{{}, some(), all(65535)} {
		for at := 24; at < 123; at++ {
			for x := 1; x < 256; x++ {
				in := body(ps)
				in[at] = byte(x)
				refused(t, "behind", sealed(t, 'P', in))
			}
		}
		refused(t, "a thirteenth one", sealed(t, 'P', append(body(ps)[:24], 0, 30)))
		reads(t, sealed(t, 'P', body(ps)[:24]), ps)
	}
}

// P8.1: Empty: all 0; and one that is none at each of the twelve places, numbers that Lay refuses too.
func TestEmpty(t *testing.T) {
	if !ptr.Empty(twelve{}) {
		t.Error("Empty of zeros: false")
	}
	for _, p := range append(far(), bounds()[1:]...) {
		for k := range 12 {
			one, rest := twelve{}, all(p)
			one[k], rest[k] = p, 0
			if ptr.Empty(one) || ptr.Empty(rest) || ptr.Empty(all(p)) {
				t.Errorf("Empty, by %d at %d: true", p, k)
			}
		}
	}
}

// P8.1: Empty, of pointers whose sum is 0, by wrapping round too.
func TestEmptyOfASumOfZero(t *testing.T) {
	for _, ps := range []twelve{{1, -1}, {11: -5, 4: 5}, {math.MinInt, math.MinInt}, {2: 1 << 62, 3: 1 << 62, 7: math.MinInt}, {32768, 32768}, {0: math.MaxInt, 1: 1, 11: math.MinInt}} {
		if ptr.Empty(ps) {
			t.Errorf("Empty(%v): true", ps)
		}
	}
}

// P8.1: Empty, of what Read tells: a block of zeros is Empty, one of which a bit is set is not.
func TestEmptyOfWhatIsRead(t *testing.T) {
	ps, code := ptr.Read(lay(t, twelve{}))
	if code != api.OK || !ptr.Empty(ps) {
		t.Errorf("%v, %d", ps, code)
	}
	for i := range 24 * 8 {
		in := make([]byte, 24)
		in[i/8] |= 1 << (i % 8)
		ps, code := ptr.Read(sealed(t, 'P', in))
		if code != api.OK || ptr.Empty(ps) {
			t.Errorf("bit %d: %v, %d", i, ps, code)
		}
	}
}

// R4, R5: what is answered is new each time, what is handed in stays as it is, its spare room too.
func TestNothingIsShared(t *testing.T) {
	ps := some()
	first := lay(t, ps)
	want := bytes.Clone(first)
	for i := range first[:cap(first)] {
		first[:cap(first)][i] = 0xEE
	}
	if !bytes.Equal(lay(t, ps), want) || ps != some() {
		t.Error("Lay: another answer was changed")
	}
	room := append(bytes.Clone(want), bytes.Repeat([]byte{0xAB}, 40)...)
	whole := bytes.Clone(room)
	reads(t, room[:128], ps)
	refused(t, "with the room", room)
	if !bytes.Equal(room, whole) {
		t.Error("Read changed what it was handed")
	}
}

// R5: several goroutines may lay, read and ask at one time, each its own.
func TestFromSeveralGoroutines(t *testing.T) {
	var group sync.WaitGroup
	for k := range 8 {
		group.Add(1)
		go func() {
			defer group.Done()
			for i := range 200 {
				ps := all(200*k + i)
				b, code := ptr.Lay(ps)
				if got, read := ptr.Read(b); code != api.OK || read != api.OK || got != ps || ptr.Empty(got) != (k+i == 0) {
					t.Errorf("%v: %v, %d, %d", ps, got, code, read)
					return
				}
			}
		}()
	}
	group.Wait()
}
