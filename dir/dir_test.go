package dir_test

import (
	"bytes"
	"strings"
	"sync"
	"testing"

	"purlin/api"
	"purlin/dir"
	"purlin/seal"
)

// some are four slots unlike one another.
func some() four {
	return four{of(0x0102, 2, "home"), {}, of(0x0304, 1, "..."), of(1, 3, "é \\")}
}

// full are four slots of which each byte is as great as it may be.
func full() four {
	var ss four
	for k := range ss {
		ss[k] = of(65535, 3, strings.Repeat("\xff", 23)+string([]byte{252 + byte(k)}))
	}
	return ss
}

// blocks are slots that may stand in one block.
func blocks() []four {
	return []four{{}, {of(513, 1, "a")}, some(), full()}
}

// bytesOf spells a slot as the chapter tells it.
func bytesOf(s api.Slot) []byte {
	b := append([]byte{byte(s.Ino / 256), byte(s.Ino), byte(s.Kind), byte(len(s.Name))}, s.Name...)
	return append(b, make([]byte, 28-len(b))...)
}

// body lays out by hand the body of a block, with zeros to its end.
func body(ss four) []byte {
	var b []byte
	for _, s := range ss {
		b = append(b, bytesOf(s)...)
	}
	return append(b, make([]byte, 123-len(b))...)
}

// block lays one out by hand: the kind, the slots' bytes, zeros, and the sum as it is told.
func block(slots string, sum ...byte) []byte {
	b := make([]byte, 124, 128)
	b[0] = 'D'
	copy(b[1:], slots)
	return append(b, sum...)
}

// known holds blocks whose sums were worked out by another program.
func known() []struct {
	ss    four
	block []byte
} {
	free := string(make([]byte, 28))
	most := "\xFF\xFF\x03\x18" + strings.Repeat("\xFF", 23)
	rest := func(n int) string { return string(make([]byte, 24-n)) }
	return []struct {
		ss    four
		block []byte
	}{
		{four{}, block("", 0x36, 0xF8, 0x1B, 0xDA)},
		{four{of(2, 1, "a")}, block("\x00\x02\x01\x01a", 0x42, 0xF1, 0x25, 0xC0)},
		{four{3: of(65535, 3, "abcdefghijklmnopqrstuvwx")}, block(free+free+free+"\xFF\xFF\x03\x18abcdefghijklmnopqrstuvwx", 0xE2, 0x1D, 0xB3, 0xD7)},
		{full(), block(most+"\xFC"+most+"\xFD"+most+"\xFE"+most+"\xFF", 0xA5, 0xA6, 0xA3, 0x78)},
		{some(), block("\x01\x02\x02\x04home"+rest(4)+free+"\x03\x04\x01\x03..."+rest(3)+"\x00\x01\x03\x04\xC3\xA9 \\", 0x1E, 0x66, 0x3A, 0xD1)},
		{
			four{of(7, 1, "x"), of(7, 1, "y"), of(7, 1, "X"), of(7, 1, "x ")},
			block("\x00\x07\x01\x01x"+rest(1)+"\x00\x07\x01\x01y"+rest(1)+"\x00\x07\x01\x01X"+rest(1)+"\x00\x07\x01\x02x ", 0x28, 0x03, 0x62, 0xFC),
		},
	}
}

// sealed seals a body, whatever stands in it.
func sealed(t *testing.T, kind byte, body []byte) []byte {
	t.Helper()
	b, code := seal.Seal(kind, body)
	if code != api.OK {
		t.Fatalf("Seal(%d, %v): %d", kind, body, code)
	}
	return b
}

// lay lays a block of slots that may stand in one.
func lay(t *testing.T, ss four) []byte {
	t.Helper()
	b, code := dir.Lay(ss)
	if code != api.OK || len(b) != 128 {
		t.Fatalf("Lay(%v): %d bytes, %d", ss, len(b), code)
	}
	return b
}

// laidRight asks that Lay and Read have these slots, which may stand in a block, byte by byte.
func laidRight(t *testing.T, ss four) {
	t.Helper()
	b := lay(t, ss)
	if in, code := seal.Open('D', b); code != api.OK || !bytes.Equal(in, body(ss)) {
		t.Errorf("Lay(%v): %v", ss, b)
	}
	reads(t, b, ss)
}

// reads asks that b tells just these.
func reads(t *testing.T, b []byte, ss four) {
	t.Helper()
	if got, code := dir.Read(b); got != ss || code != api.OK {
		t.Errorf("Read: %v, %d, not %v", got, code, ss)
	}
}

// unlaid asks that these slots may not be laid: beside the code there is nothing.
func unlaid(t *testing.T, ss four) {
	t.Helper()
	if b, code := dir.Lay(ss); b != nil || code != api.ErrArg {
		t.Errorf("Lay(%v): %v, %d", ss, b, code)
	}
}

// refused asks that b is no block of slots: beside the code all is zero.
func refused(t *testing.T, what string, b []byte) {
	t.Helper()
	if got, code := dir.Read(b); got != (four{}) || code != api.ErrForm {
		t.Errorf("%s: Read: %v, %d", what, got, code)
	}
}

// P9.1: Lay, of known blocks.
func TestLay(t *testing.T) {
	for _, x := range known() {
		if got := lay(t, x.ss); !bytes.Equal(got, x.block) {
			t.Errorf("Lay(%v): %v", x.ss, got)
		}
	}
}

// P9.1: Read, of known blocks.
func TestRead(t *testing.T) {
	for _, x := range known() {
		reads(t, x.block, x.ss)
	}
}

// P9.1: Lay and Read, of each slot that may be at each of the four places, by itself and among others.
func TestEachPlace(t *testing.T) {
	for _, s := range may() {
		for k := range 4 {
			for _, ss := range []four{{}, full(), {of(1, 1, "p"), of(1, 1, "q"), of(1, 1, "r"), of(1, 1, "s")}} {
				ss[k] = s
				if s.Name != "" && doubled(ss) {
					unlaid(t, ss)
					continue
				}
				laidRight(t, ss)
			}
		}
	}
}

// doubled tells by hand whether two of the names are alike.
func doubled(ss four) bool {
	for k := range ss {
		for j := range k {
			if ss[k].Name != "" && ss[k].Name == ss[j].Name {
				return true
			}
		}
	}
	return false
}

// P9.1: Lay and Read, of each Ino that may be, at each of the four places.
func TestEachIno(t *testing.T) {
	for x := range 65535 {
		var ss four
		for k := range ss {
			ss[k] = of(1+(x+16381*k)%65535, 1+(x+k)%3, string([]byte{'a' + byte(k)}))
		}
		b := lay(t, ss)
		if b[0] != 'D' || !bytes.Equal(b[1:124], body(ss)) {
			t.Fatalf("Lay(%v): %v", ss, b)
		}
		if got, code := dir.Read(b); got != ss || code != api.OK {
			t.Fatalf("Read: %v, %d, not %v", got, code, ss)
		}
	}
}

// P9.1: Lay, of a slot that may not be at each of the four places, the others free or not.
func TestLayRefuses(t *testing.T) {
	for _, s := range none() {
		for k := range 4 {
			for _, ss := range append(blocks(), four{s, s, s, s}) {
				ss[k] = s
				unlaid(t, ss)
			}
		}
	}
}

// P9.1: Lay, Read: two names that are alike, at each two places, whatever Ino and Kind are; and such as are nearly alike.
func TestTwoNames(t *testing.T) {
	for k := range 4 {
		for j := range 4 {
			for _, name := range []string{"x", "name", long(24, 'z'), "..."} {
				for _, other := range []api.Slot{of(5, 1, name), of(6, 2, name), of(5, 3, name), of(65535, 1, name)} {
					ss := four{of(1, 1, "p"), of(1, 1, "q"), of(1, 1, "r"), of(1, 1, "s")}
					bare := four{}
					ss[k], bare[k] = of(5, 1, name), of(5, 1, name)
					ss[j], bare[j] = other, other
					if k == j {
						laidRight(t, ss)
						continue
					}
					unlaid(t, ss)
					unlaid(t, bare)
					refused(t, "two names", sealed(t, 'D', body(ss)))
					refused(t, "two names", sealed(t, 'D', body(bare)))
				}
			}
		}
	}
	laidRight(t, four{of(5, 1, "x"), of(5, 1, "X"), of(5, 1, "xx"), of(5, 1, "x.")})
	laidRight(t, four{of(5, 1, long(24, 'a')), of(5, 1, long(24, 'b')), of(5, 1, long(23, 'a')), of(5, 1, long(22, 'n'))})
	unlaid(t, four{of(1, 1, "x"), of(2, 1, "x"), of(3, 1, "x"), of(4, 1, "x")})
	unlaid(t, four{of(1, 1, "x"), of(2, 1, "y"), of(3, 1, "y"), of(4, 1, "x")})
}

// P9.1: Read of bytes of another length, whole ones ahead of them or behind them too.
func TestReadOfAnotherLength(t *testing.T) {
	whole := lay(t, some())
	refused(t, "nil", nil)
	refused(t, "none", []byte{})
	for n := range whole {
		refused(t, "too short", whole[:n])
		refused(t, "too short", whole[n+1:])
	}
	refused(t, "one more", append(bytes.Clone(whole), 0))
	refused(t, "one ahead", append([]byte{'D'}, whole...))
	refused(t, "twice", append(bytes.Clone(whole), whole...))
	refused(t, "the body alone", body(some()))
	for _, n := range []int{1, 2, 28, 112, 123, 127, 128, 129, 256, 4096} {
		refused(t, "zeros", make([]byte, n))
		refused(t, "ones", bytes.Repeat([]byte{1}, n))
		refused(t, "full bytes", bytes.Repeat([]byte{255}, n))
	}
}

// P9.1: Read of a sector of every other kind, whose body would do; of kind 0 too, its sum right.
func TestReadOfAnotherKind(t *testing.T) {
	for _, ss := range blocks() {
		for kind := 1; kind < 256; kind++ {
			b := sealed(t, byte(kind), body(ss))
			if kind == 'D' {
				reads(t, b, ss)
				continue
			}
			refused(t, "kind", b)
		}
		b := append([]byte{0}, body(ss)...)
		sum := seal.Sum(b)
		refused(t, "kind 0", append(b, byte(sum>>24), byte(sum>>16), byte(sum>>8), byte(sum)))
	}
}

// P9.1: Read of a block in which a bit was changed, its sum not.
func TestReadOfOneThatIsNotWhole(t *testing.T) {
	for _, ss := range blocks() {
		whole := lay(t, ss)
		for i := range len(whole) * 8 {
			b := bytes.Clone(whole)
			b[i/8] ^= 1 << (i % 8)
			refused(t, "a bit", b)
		}
	}
}

// P9.1: Read of a block of which a part is of another one, as when the power goes within a write.
func TestReadOfHalves(t *testing.T) {
	old, young := lay(t, some()), lay(t, full())
	for n := 1; n < 128; n++ {
		b := append(bytes.Clone(young[:n]), old[n:]...)
		switch {
		case bytes.Equal(b, old):
			reads(t, b, some())
		case bytes.Equal(b, young):
			reads(t, b, full())
		default:
			refused(t, "halves", b)
		}
	}
}

// P9.1: Read, of every byte at every place of the slots, sealed anew: it is told if it may be, else it is ErrForm.
func TestReadOfEachByte(t *testing.T) {
	twins := four{of(1, 1, "a"), of(2, 2, "b"), of(257, 3, "aa"), of(65535, 1, long(24, 'a'))}
	for _, ss := range append(blocks(), twins) {
		for at := range 112 {
			for x := range 256 {
				in := body(ss)
				in[at] = byte(x)
				want, ok := unspelled(in)
				if ok {
					reads(t, sealed(t, 'D', in), want)
					continue
				}
				refused(t, "a byte", sealed(t, 'D', in))
			}
		}
	}
}

// unspelled tells by hand the slots of a body, and whether they may stand in a block.
func unspelled(in []byte) (four, bool) {
	var ss four
	for k := range ss {
		b := in[28*k : 28*k+28]
		if bytes.Equal(b, make([]byte, 28)) {
			continue
		}
		n := int(b[3])
		if n < 1 || n > 24 || b[2] < 1 || b[2] > 3 || b[0] == 0 && b[1] == 0 || len(bytes.Trim(b[4+n:], "\x00")) > 0 {
			return four{}, false
		}
		ss[k] = of(int(b[0])*256+int(b[1]), int(b[2]), string(b[4:4+n]))
		if strings.ContainsAny(ss[k].Name, "/\x00") || ss[k].Name == "." || ss[k].Name == ".." {
			return four{}, false
		}
	}
	return ss, !doubled(ss)
}

// P9.1: Read, of slots that may not be, sealed anew, at each of the four places, the others free or not.
func TestReadRefuses(t *testing.T) {
	var l []api.Slot
	for _, s := range none() {
		if s.Ino>>16 == 0 && s.Kind>>8 == 0 && len(s.Name) <= 24 {
			l = append(l, s)
		}
	}
	if len(l) < 50 {
		t.Fatalf("only %d slots", len(l))
	}
	for _, s := range l {
		for k := range 4 {
			for _, ss := range blocks() {
				ss[k] = s
				refused(t, "a slot", sealed(t, 'D', body(ss)))
			}
		}
	}
}

// P9.1: Read, of each length of a name, sealed anew: such as its bytes have alone may be, and none above MaxName, whatever stands there.
func TestReadOfEachLength(t *testing.T) {
	for k := range 4 {
		for n := range 256 {
			for _, name := range []string{"", "n", "name", long(23, 'n'), long(24, 'n')} {
				in := body(full())
				copy(in[28*k:], bytesOf(of(258, 2, name)))
				in[28*k+3] = byte(n)
				if n == len(name) && n > 0 {
					ss := full()
					ss[k] = of(258, 2, name)
					reads(t, sealed(t, 'D', in), ss)
					continue
				}
				refused(t, "a length", sealed(t, 'D', in))
			}
		}
	}
}

// P9.1: Read, of a byte behind a name, and in a slot that is free, that is no zero.
func TestReadOfBytesBehindAName(t *testing.T) {
	for k := range 4 {
		for n := range 24 {
			ss := full()
			ss[k] = api.Slot{}
			if n > 0 {
				ss[k] = of(258, 2, long(n, 'n'))
			}
			for at := n; at < 24; at++ {
				for _, x := range []byte{1, 'n', 128, 255} {
					in := body(ss)
					in[28*k+4+at] = x
					refused(t, "behind a name", sealed(t, 'D', in))
				}
			}
		}
	}
}

// P9.1: Read, of bytes behind the slots that are no zeros.
func TestReadOfBytesBehind(t *testing.T) {
	for _, ss := range blocks() {
		for at := 112; at < 123; at++ {
			for x := 1; x < 256; x++ {
				in := body(ss)
				in[at] = byte(x)
				refused(t, "behind", sealed(t, 'D', in))
			}
		}
		refused(t, "a fifth one", sealed(t, 'D', append(body(ss)[:112], 0, 9, 1, 1, 'f')))
		reads(t, sealed(t, 'D', body(ss)[:112]), ss)
	}
}

// P9.1: Find and Free, of what Read tells.
func TestFindInWhatIsRead(t *testing.T) {
	ss, code := dir.Read(lay(t, some()))
	if code != api.OK || dir.Find(ss, "é \\") != 3 || dir.Find(ss, "home") != 0 || dir.Find(ss, "") != -1 || dir.Free(ss) != 1 {
		t.Errorf("%v, %d", ss, code)
	}
	ss, code = dir.Read(lay(t, full()))
	if code != api.OK || dir.Find(ss, full()[2].Name) != 2 || dir.Free(ss) != -1 {
		t.Errorf("%v, %d", ss, code)
	}
	ss, code = dir.Read(lay(t, four{}))
	if code != api.OK || dir.Find(ss, "") != -1 || dir.Free(ss) != 0 {
		t.Errorf("%v, %d", ss, code)
	}
}

// R4, R5: what is answered is new each time, what is handed in stays as it is, its spare room too.
func TestNothingIsShared(t *testing.T) {
	ss := some()
	first := lay(t, ss)
	want := bytes.Clone(first)
	for i := range first[:cap(first)] {
		first[:cap(first)][i] = 0xEE
	}
	if !bytes.Equal(lay(t, ss), want) || ss != some() {
		t.Error("Lay: another answer was changed")
	}
	room := append(bytes.Clone(want), bytes.Repeat([]byte{0xAB}, 40)...)
	whole := bytes.Clone(room)
	got, _ := dir.Read(room[:128])
	refused(t, "with the room", room)
	if !bytes.Equal(room, whole) {
		t.Error("Read changed what it was handed")
	}
	for i := range room {
		room[i] = 'x'
	}
	if got != some() {
		t.Errorf("Read: its names are those of its argument: %v", got)
	}
}

// R5: several goroutines may lay, read and look for names at one time, each its own.
func TestFromSeveralGoroutines(t *testing.T) {
	var group sync.WaitGroup
	for k := range 8 {
		group.Add(1)
		go func() {
			defer group.Done()
			for i := range 200 {
				ss := four{of(200*k+i+1, 1, "a"), {}, of(i+1, 2, string([]byte{'A' + byte(k)})), of(k+1, 3, long(24, 'a'+byte(i%26)))}
				b, code := dir.Lay(ss)
				if got, read := dir.Read(b); code != api.OK || read != api.OK || got != ss || dir.Find(got, ss[3].Name) != 3 || dir.Free(got) != 1 {
					t.Errorf("%v: %v, %d, %d", ss, got, code, read)
					return
				}
			}
		}()
	}
	group.Wait()
}
