package field_test

import (
	"bytes"
	"math"
	"testing"

	"purlin/field"
)

// Fits: the least and the greatest of each size, from both sides, and numbers and sizes far away.
func TestFits(t *testing.T) {
	for _, x := range []struct {
		n, size int
		want    bool
	}{
		{0, 1, true}, {1, 1, true}, {255, 1, true}, {256, 1, false}, {-1, 1, false}, {math.MaxInt, 1, false}, {math.MinInt, 1, false},
		{0, 2, true}, {65535, 2, true}, {65536, 2, false}, {65537, 2, false}, {1 << 32, 2, false}, {-1, 2, false}, {-65536, 2, false}, {math.MinInt, 2, false},
		{0, 4, true}, {1<<32 - 1, 4, true}, {1 << 32, 4, false}, {-1 << 32, 4, false},
		{math.MaxInt, 8, true}, {-1, 8, false}, {math.MinInt, 8, false},
		{math.MaxInt, math.MaxInt, true}, {math.MinInt, math.MaxInt, false}, {0, math.MaxInt, true},
		{0, 0, true}, {1, 0, false}, {0, -1, true}, {1, -1, false}, {-1, math.MinInt, false},
	} {
		if got := field.Fits(x.n, x.size); got != x.want {
			t.Errorf("Fits(%d, %d): %v", x.n, x.size, got)
		}
	}
}

// Put and Get: the highest byte first, over just the bytes that are handed in.
func TestPutAndGet(t *testing.T) {
	for _, x := range []struct {
		n    int
		want []byte
	}{
		{0, []byte{}}, {0, []byte{0}}, {7, []byte{7}}, {255, []byte{255}},
		{0, []byte{0, 0}}, {1, []byte{0, 1}}, {256, []byte{1, 0}}, {0x1234, []byte{0x12, 0x34}}, {65535, []byte{255, 255}},
		{20736, []byte{0, 0, 0x51, 0}}, {0x01020304, []byte{1, 2, 3, 4}}, {1<<32 - 1, []byte{255, 255, 255, 255}},
	} {
		room := bytes.Repeat([]byte{0xAB}, len(x.want)+2)
		field.Put(room[1:len(room)-1], x.n)
		want := append(append([]byte{0xAB}, x.want...), 0xAB)
		if !bytes.Equal(room, want) {
			t.Errorf("Put(%d): %v, not %v", x.n, room, want)
		}
		if got := field.Get(x.want); got != x.n {
			t.Errorf("Get(%v): %d, not %d", x.want, got, x.n)
		}
	}
	field.Put(nil, 9)
	if field.Get(nil) != 0 {
		t.Error("Get(nil)")
	}
}

// Blank: zeros, however many, and one byte that is none at each place.
func TestBlank(t *testing.T) {
	if !field.Blank(nil) {
		t.Error("Blank(nil): false")
	}
	for n := range 130 {
		b := make([]byte, n)
		if !field.Blank(b) {
			t.Errorf("Blank of %d zeros: false", n)
		}
		for i := range b {
			b[i] = byte(1 + i)
			if field.Blank(b) {
				t.Errorf("Blank(%v): true", b)
			}
			b[i] = 0
		}
	}
}
