package field_test

import (
	"bytes"
	"math"
	"strings"
	"testing"

	"purlin/field"
)

// Fits: the least and the greatest of each size, from both sides, and numbers and sizes far away.
func TestFits(t *testing.T) {
	for _, x := range []struct {
		n, size int
		want    bool
	}{
		{0, 1, true}, {1, 1, true}, {255, 1, true}, {256, 1, false}, {-1, 1, false}, {math.MaxInt, 1, false}, {math.MinInt, 1, false},
		{0, 2, true}, {65535, 2, true}, {65536, 2, false}, {65537, 2, false}, {1 << 32, 2, false}, {-1, 2, false}, {-65536, 2, false}, {math.MinInt, 2, false},
		{0, 4, true}, {1<<32 - 1, 4, true}, {1 << 32, 4, false}, {-1 << 32, 4, false},
		{math.MaxInt, 8, true}, {-1, 8, false}, {math.MinInt, 8, false},
		{math.MaxInt, math.MaxInt, true}, {math.MinInt, math.MaxInt, false}, {0, math.MaxInt, true},
		{0, 0, true}, {1, 0, false}, {0, -1, true}, {1, -1, false}, {-1, math.MinInt, false},
	} {
		if got := field.Fits(x.n, x.size); got != x.want {
			t.Errorf("Fits(%d, %d): %v", x.n, x.size, got)
		}
	}
}

// Put and Get: the highest byte first, over just the bytes that are handed in.
func TestPutAndGet(t *testing.T) {
	for _, x := range []struct {
		n    int
		want []byte
	}{
		{0, []byte{}}, {0, []byte{0}}, {7, []byte{7}}, {255, []byte{255}},
		{0, []byte{0, 0}}, {1, []byte{0, 1}}, {256, []byte{1, 0}}, {0x1234, []byte{0x12, 0x34}}, {65535, []byte{255, 255}},
		{20736, []byte{0, 0, 0x51, 0}}, {0x01020304, []byte{1, 2, 3, 4}}, {1<<32 - 1, []byte{255, 255, 255, 255}},
	} {
		room := bytes.Repeat([]byte{0xAB}, len(x.want)+2)
		field.Put(room[1:len(room)-1], x.n)
		want := append(append([]byte{0xAB}, x.want...), 0xAB)
		if !bytes.Equal(room, want) {
			t.Errorf("Put(%d): %v, not %v", x.n, room, want)
		}
		if got := field.Get(x.want); got != x.n {
			t.Errorf("Get(%v): %d, not %d", x.want, got, x.n)
		}
	}
	field.Put(nil, 9)
	if field.Get(nil) != 0 {
		t.Error("Get(nil)")
	}
}

// PutText: the length, the text, zeros, over just the bytes that are handed in; GetText: the text again.
func TestPutTextAndGetText(t *testing.T) {
	for _, x := range []struct {
		s    string
		want []byte
	}{
		{"", []byte{0}}, {"", []byte{0, 0, 0}}, {"a", []byte{1, 'a'}}, {"a", []byte{1, 'a', 0, 0}}, {"abc", []byte{3, 'a', 'b', 'c'}},
		{"\x00\x00", []byte{2, 0, 0, 0}}, {"a\x00", []byte{2, 'a', 0}}, {"\xff\xfe", []byte{2, 255, 254, 0, 0, 0}}, {"é", []byte{2, 0xC3, 0xA9, 0}},
		{strings.Repeat("n", 24), append([]byte{24}, bytes.Repeat([]byte{'n'}, 24)...)},
		{strings.Repeat("n", 255), append([]byte{255}, bytes.Repeat([]byte{'n'}, 255)...)},
	} {
		room := bytes.Repeat([]byte{0xAB}, len(x.want)+2)
		field.PutText(room[1:len(room)-1], x.s)
		want := append(append([]byte{0xAB}, x.want...), 0xAB)
		if !bytes.Equal(room, want) {
			t.Errorf("PutText(%q): %v, not %v", x.s, room, want)
		}
		if got, ok := field.GetText(x.want); got != x.s || !ok {
			t.Errorf("GetText(%v): %q, %v, not %q", x.want, got, ok, x.s)
		}
	}
}

// GetText: lengths beyond what there is, and bytes behind the text that are no zeros.
func TestGetTextOfNone(t *testing.T) {
	for _, b := range [][]byte{
		{1}, {255}, {2, 'a'}, {3, 0, 0}, {128, 'a', 0, 0}, {255, 'a', 'b', 'c'},
		{0, 'a'}, {0, 0, 1}, {1, 'a', 'b'}, {1, 'a', 0, 255}, {2, 'a', 'b', 0, 0, 1, 0},
	} {
		if got, ok := field.GetText(b); got != "" || ok {
			t.Errorf("GetText(%v): %q, %v", b, got, ok)
		}
	}
}

// IsKind: the three, those beside them, and such as fewer bits would make one.
func TestIsKind(t *testing.T) {
	for n := -300; n < 70000; n++ {
		if field.IsKind(n) != (n >= 1 && n <= 3) {
			t.Errorf("IsKind(%d): %v", n, field.IsKind(n))
		}
	}
	for _, n := range []int{math.MinInt, math.MinInt + 1, -1<<32 + 1, 1<<32 + 1, 1<<32 + 2, 1<<62 + 3, math.MaxInt} {
		if field.IsKind(n) {
			t.Errorf("IsKind(%d): true", n)
		}
	}
}

// Blank: zeros, however many, and one byte that is none at each place.
func TestBlank(t *testing.T) {
	if !field.Blank(nil) {
		t.Error("Blank(nil): false")
	}
	for n := range 130 {
		b := make([]byte, n)
		if !field.Blank(b) {
			t.Errorf("Blank of %d zeros: false", n)
		}
		for i := range b {
			b[i] = byte(1 + i)
			if field.Blank(b) {
				t.Errorf("Blank(%v): true", b)
			}
			b[i] = 0
		}
	}
}
