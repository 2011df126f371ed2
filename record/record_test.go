package record_test

import (
	"bytes"
	"slices"
	"strings"
	"sync"
	"testing"

	"purlin/api"
	"purlin/record"
	"purlin/seal"
)

// The places in a body, told by the words of the chapter: a byte, four numbers of two, and two names of 25 with their lengths.
const (
	fromNameAt = 9
	toNameAt   = 34
	restAt     = 59
)

// body lays out by hand the body of a record, with zeros to its end.
func body(r api.Record) []byte {
	b := []byte{0}
	if r.On {
		b[0] = 1
	}
	for k := range numbers {
		x := *number(&r, k)
		b = append(b, byte(x/256), byte(x))
	}
	for _, name := range []string{r.FromName, r.ToName} {
		b = append(append(b, byte(len(name))), name...)
		b = append(b, make([]byte, 24-len(name))...)
	}
	return append(b, make([]byte, 123-len(b))...)
}

// sector lays one out by hand: the kind, the record's bytes, zeros, and the sum as it is told.
func sector(record string, sum ...byte) []byte {
	b := make([]byte, 124, 128)
	b[0] = 'R'
	copy(b[1:], record)
	return append(b, sum...)
}

// zeros are so many of them.
func zeros(n int) string {
	return string(make([]byte, n))
}

// known holds sectors whose sums were worked out by another program.
func known() []struct {
	r      api.Record
	sector []byte
} {
	full := strings.Repeat("\xFF", 23)
	return []struct {
		r      api.Record
		sector []byte
	}{
		{api.Record{}, sector("", 0x8B, 0xB4, 0x56, 0x44)},
		{least(), sector("\x01\x00\x01\x00\x01\x00\x01\x00\x00\x01a"+zeros(23)+"\x01a", 0x8A, 0xEE, 0x83, 0xC3)},
		{some(), sector("\x01\x01\x02\x03\x04\x05\x06\x07\x08\x04home"+zeros(20)+"\x03...", 0xDA, 0x7A, 0xC0, 0x91)},
		{
			of(65535, 65535, 65535, 65534, full+"\xFF", full+"\xFE"),
			sector("\x01\xFF\xFF\xFF\xFF\xFF\xFF\xFF\xFE\x18"+full+"\xFF\x18"+full+"\xFE", 0x41, 0x58, 0x7D, 0x22),
		},
		{
			of(65535, 65535, 65534, 65535, "abcdefghijklmnopqrstuvwx", "y"),
			sector("\x01\xFF\xFF\xFF\xFF\xFF\xFE\xFF\xFF\x18abcdefghijklmnopqrstuvwx\x01y", 0xF2, 0xF1, 0xBD, 0xDA),
		},
		{of(2, 3, 7, 0, "x", "é \\"), sector("\x01\x00\x02\x00\x03\x00\x07\x00\x00\x01x"+zeros(23)+"\x04\xC3\xA9 \\", 0xBC, 0xDD, 0xA3, 0x0F)},
	}
}

// all are the records that a test takes as its grounds: none, and such as are On.
func all() []api.Record {
	return append(bases(), api.Record{})
}

// sealed seals a body, whatever stands in it.
func sealed(t *testing.T, kind byte, body []byte) []byte {
	t.Helper()
	b, code := seal.Seal(kind, body)
	if code != api.OK {
		t.Fatalf("Seal(%d, %v): %d", kind, body, code)
	}
	return b
}

// lay lays a record that may be.
func lay(t *testing.T, r api.Record) []byte {
	t.Helper()
	b, code := record.Lay(r)
	if code != api.OK || len(b) != 128 {
		t.Fatalf("Lay(%v): %d bytes, %d", r, len(b), code)
	}
	return b
}

// laidRight asks that Lay and Read have r, which may be, byte by byte.
func laidRight(t *testing.T, r api.Record) {
	t.Helper()
	b := lay(t, r)
	if in, code := seal.Open('R', b); code != api.OK || !bytes.Equal(in, body(r)) {
		t.Errorf("Lay(%v): %v", r, b)
	}
	reads(t, b, r)
}

// reads asks that b tells just r.
func reads(t *testing.T, b []byte, r api.Record) {
	t.Helper()
	if got, code := record.Read(b); got != r || code != api.OK {
		t.Errorf("Read: %v, %d, not %v", got, code, r)
	}
}

// refused asks that b is no record's sector: beside the code all is zero.
func refused(t *testing.T, what string, b []byte) {
	t.Helper()
	if got, code := record.Read(b); got != (api.Record{}) || code != api.ErrForm {
		t.Errorf("%s: Read: %v, %d", what, got, code)
	}
}

// P10.1: Lay, of known records.
func TestLay(t *testing.T) {
	for _, x := range known() {
		if got := lay(t, x.r); !bytes.Equal(got, x.sector) {
			t.Errorf("Lay(%v): %v", x.r, got)
		}
	}
}

// P10.1: Read, of known sectors.
func TestRead(t *testing.T) {
	for _, x := range known() {
		reads(t, x.sector, x.r)
	}
}

// P10.1: Lay and Read, of each record that may be.
func TestEachThatMayBe(t *testing.T) {
	for _, r := range may() {
		laidRight(t, r)
	}
}

// P10.1: Lay and Read, of each number that may be, at each of the four places.
func TestEachNumber(t *testing.T) {
	for x := 1; x <= 65535; x++ {
		r := of(x, 1+(x+16381)%65535, 1+(x+32762)%65535, (x+49143)%65536, "from", "to")
		b := lay(t, r)
		if b[0] != 'R' || !bytes.Equal(b[1:124], body(r)) {
			t.Fatalf("Lay(%v): %v", r, b)
		}
		if got, code := record.Read(b); got != r || code != api.OK {
			t.Fatalf("Read: %v, %d, not %v", got, code, r)
		}
	}
}

// P10.1: Lay, of a record that may not be: beside the code there is nothing.
func TestLayRefuses(t *testing.T) {
	for _, r := range none() {
		if b, code := record.Lay(r); b != nil || code != api.ErrArg {
			t.Errorf("Lay(%v): %v, %d", r, b, code)
		}
	}
}

// P10.1: Read, of a record that may not be, sealed as one that may.
func TestReadRefuses(t *testing.T) {
	done := 0
	for _, r := range none() {
		if !spelled(r) {
			continue
		}
		done++
		refused(t, "a record", sealed(t, 'R', body(r)))
	}
	if done < 100 {
		t.Fatalf("only %d records", done)
	}
}

// spelled tells whether r can be spelled as bytes, whether it may be or not.
func spelled(r api.Record) bool {
	for k := range numbers {
		if x := *number(&r, k); x < 0 || x > 65535 {
			return false
		}
	}
	return len(r.FromName) <= 24 && len(r.ToName) <= 24
}

// P10.1: Read of bytes of another length, whole ones ahead of them or behind them too.
func TestReadOfAnotherLength(t *testing.T) {
	whole := lay(t, some())
	refused(t, "nil", nil)
	refused(t, "none", []byte{})
	for n := range whole {
		refused(t, "too short", whole[:n])
		refused(t, "too short", whole[n+1:])
	}
	refused(t, "one more", append(bytes.Clone(whole), 0))
	refused(t, "one ahead", append([]byte{'R'}, whole...))
	refused(t, "twice", append(bytes.Clone(whole), whole...))
	refused(t, "the body alone", body(some()))
	for _, n := range []int{1, 2, 25, 59, 123, 127, 128, 129, 256, 4096} {
		refused(t, "zeros", make([]byte, n))
		refused(t, "ones", bytes.Repeat([]byte{1}, n))
		refused(t, "full bytes", bytes.Repeat([]byte{255}, n))
	}
}

// P10.1: Read of a sector of every other kind, whose body would do; of kind 0 too, its sum right.
func TestReadOfAnotherKind(t *testing.T) {
	for _, r := range all() {
		for kind := 1; kind < 256; kind++ {
			b := sealed(t, byte(kind), body(r))
			if kind == 'R' {
				reads(t, b, r)
				continue
			}
			refused(t, "kind", b)
		}
		b := append([]byte{0}, body(r)...)
		sum := seal.Sum(b)
		refused(t, "kind 0", append(b, byte(sum>>24), byte(sum>>16), byte(sum>>8), byte(sum)))
	}
}

// P10.1: Read of a sector in which a bit was changed, its sum not.
func TestReadOfOneThatIsNotWhole(t *testing.T) {
	for _, r := range all() {
		whole := lay(t, r)
		for i := range len(whole) * 8 {
			b := bytes.Clone(whole)
			b[i/8] ^= 1 << (i % 8)
			refused(t, "a bit", b)
		}
	}
}

// P10.1: Read of a sector of which a part is of another record, as when the power goes within a write.
func TestReadOfHalves(t *testing.T) {
	for _, before := range all() {
		for _, behind := range all() {
			ahead, rest := lay(t, behind), lay(t, before)
			for n := 1; n < 128; n++ {
				b := append(bytes.Clone(ahead[:n]), rest[n:]...)
				switch {
				case bytes.Equal(b, rest):
					reads(t, b, before)
				case bytes.Equal(b, ahead):
					reads(t, b, behind)
				default:
					refused(t, "halves", b)
				}
			}
		}
	}
}

// P10.1: Read, of every byte at every place of the record, sealed anew: it is told if it may be, else it is ErrForm.
func TestReadOfEachByte(t *testing.T) {
	grounds := append(all(), of(257, 1, 256, 255, ".a", "a."), of(1, 256, 1, 2, "..", "a"), api.Record{On: true})
	for _, r := range grounds {
		for at := range restAt {
			for x := range 256 {
				in := body(r)
				in[at] = byte(x)
				want, ok := unspelled(in)
				if ok {
					reads(t, sealed(t, 'R', in), want)
					continue
				}
				refused(t, "a byte", sealed(t, 'R', in))
			}
		}
	}
}

// unspelled tells by hand the record of a body, and whether it may be.
func unspelled(in []byte) (api.Record, bool) {
	if bytes.Equal(in, make([]byte, 123)) {
		return api.Record{}, true
	}
	r := api.Record{On: true}
	for k := range numbers {
		*number(&r, k) = int(in[1+2*k])*256 + int(in[2+2*k])
	}
	if in[0] != 1 || r.From == 0 || r.To == 0 || r.Ino == 0 || r.Old == r.Ino {
		return api.Record{}, false
	}
	var fromOK, toOK bool
	r.FromName, fromOK = name(in[fromNameAt:toNameAt])
	r.ToName, toOK = name(in[toNameAt:restAt])
	if !fromOK || !toOK {
		return api.Record{}, false
	}
	return r, true
}

// name tells by hand the name that b spells, and whether it may be.
func name(b []byte) (string, bool) {
	n := int(b[0])
	if n < 1 || n > 24 || len(bytes.Trim(b[1+n:], "\x00")) > 0 {
		return "", false
	}
	s := string(b[1 : 1+n])
	return s, !strings.ContainsAny(s, "/\x00") && s != "." && s != ".."
}

// P10.1: Read, of every first byte: 1 is On, 0 is not and has to be zero all through, else ErrForm.
func TestReadOfEachFirstByte(t *testing.T) {
	for x := range 256 {
		for _, r := range all() {
			in := body(r)
			in[0] = byte(x)
			if r.On && x == 1 || !r.On && x == 0 {
				reads(t, sealed(t, 'R', in), r)
				continue
			}
			refused(t, "a first byte", sealed(t, 'R', in))
		}
	}
}

// P10.1: Read, of one that is not On but for a bit that is set, anywhere.
func TestReadOfOneThatIsNotOn(t *testing.T) {
	for i := range 123 * 8 {
		in := make([]byte, 123)
		in[i/8] |= 1 << (i % 8)
		refused(t, "a bit", sealed(t, 'R', in))
	}
}

// P10.1: Read, of each length of either name, sealed anew: such as its bytes have alone may be, and none above MaxName, whatever stands there.
func TestReadOfEachLength(t *testing.T) {
	for _, at := range []int{fromNameAt, toNameAt} {
		for n := range 256 {
			for _, s := range []string{"", "n", "name", long(23, 'n'), long(24, 'n')} {
				r := most()
				if at == fromNameAt {
					r.FromName = s
				} else {
					r.ToName = s
				}
				in := body(r)
				in[at] = byte(n)
				if n == len(s) && n > 0 {
					reads(t, sealed(t, 'R', in), r)
					continue
				}
				refused(t, "a length", sealed(t, 'R', in))
			}
		}
	}
}

// P10.1: Read, of a byte behind either name that is no zero.
func TestReadOfBytesBehindAName(t *testing.T) {
	for n := 1; n < 24; n++ {
		for _, r := range []api.Record{of(1, 2, 3, 4, long(n, 'a'), long(n, 'b')), of(1, 1, 9, 0, long(n, 'a'), long(n, 'a'))} {
			for _, at := range []int{fromNameAt, toNameAt} {
				for behind := at + 1 + n; behind < at+25; behind++ {
					for _, x := range []byte{1, 'n', 128, 255} {
						in := body(r)
						in[behind] = x
						refused(t, "behind a name", sealed(t, 'R', in))
					}
				}
			}
		}
	}
}

// P10.1: Read, of bytes behind both names that are no zeros.
func TestReadOfBytesBehind(t *testing.T) {
	for _, r := range all() {
		for at := restAt; at < 123; at++ {
			for x := 1; x < 256; x++ {
				in := body(r)
				in[at] = byte(x)
				refused(t, "behind", sealed(t, 'R', in))
			}
		}
		refused(t, "a third name", sealed(t, 'R', append(body(r)[:restAt], 1, 'c')))
		reads(t, sealed(t, 'R', body(r)[:restAt]), r)
	}
}

// P10.1: Read, of two records in one another's place: what From has is not what To has.
func TestReadTellsFromAndTo(t *testing.T) {
	r := of(11, 12, 13, 14, "from", "to")
	turned := slices.Concat([]byte{1, 0, 12, 0, 11, 0, 14, 0, 13}, body(r)[toNameAt:restAt], body(r)[fromNameAt:toNameAt])
	reads(t, sealed(t, 'R', turned), of(12, 11, 14, 13, "to", "from"))
	laidRight(t, r)
}

// R4, R5: what is answered is new each time, what is handed in stays as it is, its spare room too.
func TestNothingIsShared(t *testing.T) {
	r := some()
	first := lay(t, r)
	want := bytes.Clone(first)
	for i := range first[:cap(first)] {
		first[:cap(first)][i] = 0xEE
	}
	if !bytes.Equal(lay(t, r), want) || r != some() {
		t.Error("Lay: another answer was changed")
	}
	room := append(bytes.Clone(want), bytes.Repeat([]byte{0xAB}, 40)...)
	whole := bytes.Clone(room)
	got, _ := record.Read(room[:128])
	refused(t, "with the room", room)
	if !bytes.Equal(room, whole) {
		t.Error("Read changed what it was handed")
	}
	for i := range room {
		room[i] = 'x'
	}
	if got != some() {
		t.Errorf("Read: its names are those of its argument: %v", got)
	}
}

// R5: several goroutines may lay, read and ask at one time, each its own.
func TestFromSeveralGoroutines(t *testing.T) {
	var group sync.WaitGroup
	for k := range 8 {
		group.Add(1)
		go func() {
			defer group.Done()
			for i := range 200 {
				r := of(200*k+i+1, i+1, 1000*k+i+1, 9999+k, string([]byte{'A' + byte(k)}), long(24, 'a'+byte(i%26)))
				b, code := record.Lay(r)
				if got, read := record.Read(b); code != api.OK || read != api.OK || got != r || !record.May(got) {
					t.Errorf("%v: %v, %d, %d", r, got, code, read)
					return
				}
			}
		}()
	}
	group.Wait()
}
