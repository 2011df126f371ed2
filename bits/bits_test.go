package bits_test

import (
	"bytes"
	"math"
	"slices"
	"sync"
	"testing"

	"purlin/bits"
)

// there asks the words of the chapter, over a text of all the bits: '1' stands at each number that is there.
func there(b []byte, i int) bool {
	text := ""
	for _, x := range b {
		for range 8 {
			text += string('0' + rune(x%2))
			x /= 2
		}
	}
	return i >= 0 && i < len(text) && text[i] == '1'
}

// sets are some of every kind: empty ones, single numbers, full ones, and mixed ones.
func sets() [][]byte {
	out := [][]byte{nil, {}, {0, 0}, {255, 255}, {0, 255}, {255, 0}, {0x55, 0xAA, 0x55}, {0x0F, 0xF0, 0x3C}, {3}, {0x81, 0x18}}
	for i := range 16 {
		one := []byte{0, 0}
		one[i/8] = 1 << (i % 8)
		out = append(out, one, []byte{^one[0], ^one[1]})
	}
	for i := range 40 {
		out = append(out, []byte{byte(i * 37), byte(i*i*11 + 5), byte(i*73 + i*i)}[:1+i%3])
	}
	return out
}

// P3.1: Has, of known numbers: the lowest bit of a byte is the least number.
func TestHas(t *testing.T) {
	for _, x := range []struct {
		b   []byte
		all []int
	}{
		{nil, nil}, {[]byte{}, nil}, {[]byte{0}, nil},
		{[]byte{1}, []int{0}}, {[]byte{2}, []int{1}}, {[]byte{0x80}, []int{7}},
		{[]byte{0, 1}, []int{8}}, {[]byte{0, 0x80}, []int{15}}, {[]byte{0x10, 0, 0x06}, []int{4, 17, 18}},
		{[]byte{255}, []int{0, 1, 2, 3, 4, 5, 6, 7}},
	} {
		for i := -40; i < 40; i++ {
			if got := bits.Has(x.b, i); got != slices.Contains(x.all, i) {
				t.Errorf("Has(%x, %d): %v", x.b, i, got)
			}
		}
	}
}

// P3.1: Has, of numbers that b has not, whatever b has.
func TestHasNot(t *testing.T) {
	full := []byte{255, 255}
	for _, i := range []int{-1, -7, -8, -9, -16, 16, 17, 23, 24, math.MinInt, math.MinInt + 1, math.MinInt32, math.MaxInt32, 1 << 32, 1 << 35, 1<<35 + 1, math.MaxInt - 7, math.MaxInt} {
		for _, b := range [][]byte{nil, {}, full} {
			if bits.Has(b, i) {
				t.Errorf("Has(%x, %d)", b, i)
			}
		}
	}
	// Spare room holds no numbers.
	if bits.Has(full[:1], 8) || !bits.Has(full[:1], 7) {
		t.Error("the spare room")
	}
}

// P3.1: With changes the one number, both ways, and nothing else.
func TestWith(t *testing.T) {
	for _, b := range sets() {
		for i := range 8 * len(b) {
			for _, on := range []bool{false, true} {
				got := bits.With(b, i, on)
				if len(got) != len(b) {
					t.Fatalf("With(%x, %d, %v): %x", b, i, on, got)
				}
				for k := range 8 * len(b) {
					if want := k == i && on || k != i && there(b, k); there(got, k) != want {
						t.Fatalf("With(%x, %d, %v): %x", b, i, on, got)
					}
				}
			}
		}
	}
	for i, x := range []struct{ got, want []byte }{
		{bits.With([]byte{0, 0}, 9, true), []byte{0, 2}},
		{bits.With([]byte{255, 255}, 9, false), []byte{255, 0xFD}},
		{bits.With([]byte{0, 2}, 9, true), []byte{0, 2}},
		{bits.With([]byte{255, 0xFD}, 9, false), []byte{255, 0xFD}},
	} {
		if !bytes.Equal(x.got, x.want) {
			t.Errorf("the %d-th: %x", i, x.got)
		}
	}
}

// P3.1: With leaves b as it is, and as long as it is, if it has not i.
func TestWithout(t *testing.T) {
	for _, b := range [][]byte{nil, {}, {0, 0}, {255, 255}, {0x5A, 0xC3}} {
		for _, i := range []int{-1, -8, -16, 16, 17, 1000, math.MinInt, math.MaxInt, 1 << 32} {
			for _, on := range []bool{false, true} {
				if got := bits.With(b, i, on); !bytes.Equal(got, b) {
					t.Errorf("With(%x, %d, %v): %x", b, i, on, got)
				}
			}
		}
	}
}

// P3.1: Count and All of every n, below 0 and beyond what b has too.
func TestCountAndAll(t *testing.T) {
	for _, b := range sets() {
		var want []int
		for n := -20; n < 60; n++ {
			if there(b, n-1) {
				want = append(want, n-1)
			}
			if got := bits.Count(b, n); got != len(want) {
				t.Errorf("Count(%x, %d): %d", b, n, got)
			}
			if got := bits.All(b, n); !slices.Equal(got, want) {
				t.Errorf("All(%x, %d): %v", b, n, got)
			}
		}
		if got := bits.Count(b, math.MaxInt); got != len(want) {
			t.Errorf("Count(%x) of all: %d", b, got)
		}
		if got := bits.All(b, math.MaxInt); !slices.Equal(got, want) {
			t.Errorf("All(%x) of all: %v", b, got)
		}
		if bits.Count(b, math.MinInt) != 0 || len(bits.All(b, math.MinInt)) != 0 {
			t.Errorf("of %x below 0", b)
		}
	}
	b := []byte{0x81, 0x03, 0xFF}
	if got := bits.Count(b, 10); got != 4 {
		t.Errorf("Count: %d", got)
	}
	if got := bits.All(b, 17); !slices.Equal(got, []int{0, 7, 8, 9, 16}) {
		t.Errorf("All: %v", got)
	}
}

// P3.1: First, of known sets.
func TestFirst(t *testing.T) {
	for _, x := range []struct {
		b             []byte
		from, n, want int
	}{
		{[]byte{3}, 0, 8, 2}, {[]byte{3}, 3, 8, 3}, {[]byte{3}, 0, 2, -1}, {[]byte{3}, 0, 3, 2}, {[]byte{3}, 2, 2, -1}, {[]byte{3}, 3, 2, -1},
		// From below 0 it goes from 0 on.
		{[]byte{3}, -1, 8, 2}, {[]byte{0}, -5, 8, 0}, {[]byte{3}, math.MinInt, 8, 2}, {[]byte{0}, -5, 0, -1}, {[]byte{0}, -5, -2, -1},
		// What b has no room for is not there.
		{[]byte{255}, 0, 8, -1}, {[]byte{255}, 0, 9, 8}, {[]byte{255}, 20, 30, 20}, {nil, 0, 1, 0}, {nil, 0, 0, -1}, {nil, 7, 9, 7},
		{[]byte{255, 255}, 3, math.MaxInt, 16}, {nil, math.MaxInt - 1, math.MaxInt, math.MaxInt - 1}, {nil, math.MaxInt, math.MaxInt, -1},
		{nil, math.MinInt, math.MinInt, -1}, {[]byte{0}, math.MaxInt, math.MinInt, -1}, {nil, math.MinInt, math.MaxInt, 0},
	} {
		if got := bits.First(x.b, x.from, x.n); got != x.want {
			t.Errorf("First(%x, %d, %d): %d, not %d", x.b, x.from, x.n, got, x.want)
		}
	}
}

// P3.1: First by the words of the chapter, of every from and n.
func TestFirstByTheWords(t *testing.T) {
	for _, b := range sets() {
		for from := -10; from < 30; from++ {
			for n := -3; n < 30; n++ {
				want := -1
				for i := n - 1; i >= max(from, 0); i-- {
					if !there(b, i) {
						want = i
					}
				}
				if got := bits.First(b, from, n); got != want {
					t.Fatalf("First(%x, %d, %d): %d, not %d", b, from, n, got, want)
				}
			}
		}
	}
}

// P3.1: Run, of known sets.
func TestRun(t *testing.T) {
	for _, x := range []struct {
		b                   []byte
		from, n, long, want int
	}{
		{[]byte{0x0B}, 0, 8, 1, 2}, {[]byte{0x0B}, 0, 8, 2, 4}, {[]byte{0x0B}, 0, 8, 4, 4}, {[]byte{0x0B}, 0, 8, 5, -1}, {[]byte{0x0B}, 5, 8, 3, 5}, {[]byte{0x0B}, 5, 8, 4, -1},
		// Over the edge of a byte, and up to n just so.
		{[]byte{0x3F, 0xFC}, 0, 16, 4, 6}, {[]byte{0x3F, 0xFC}, 0, 10, 4, 6}, {[]byte{0x3F, 0xFC}, 0, 9, 4, -1}, {[]byte{0x3F, 0xFC}, 7, 16, 3, 7}, {[]byte{0x3F, 0xFC}, 7, 16, 4, -1},
		// A row that is too short stands ahead of one that is long enough.
		{[]byte{0x6A}, 0, 8, 2, -1}, {[]byte{0x6A}, 0, 9, 2, 7}, {[]byte{0x22, 0x01}, 0, 16, 3, 2}, {[]byte{0x22, 0x01}, 0, 16, 4, 9},
		// What b has no room for is not there.
		{[]byte{255}, 0, 8, 1, -1}, {[]byte{255}, 0, 9, 1, 8}, {[]byte{255}, 0, 20, 12, 8}, {[]byte{255}, 0, 20, 13, -1}, {[]byte{0x7F}, 0, 20, 13, 7}, {nil, 0, 3, 3, 0}, {nil, 2, 3, 1, 2}, {nil, 3, 3, 1, -1}, {nil, 30, 40, 10, 30},
		// Long below 1, from below 0.
		{nil, 0, 8, 0, -1}, {nil, 0, 8, -1, -1}, {nil, 0, 8, math.MinInt, -1}, {nil, -1, 8, 1, -1}, {[]byte{0}, -1, 8, 9, -1}, {nil, math.MinInt, 8, 1, -1}, {nil, 0, 0, 0, -1}, {nil, 0, -1, -1, -1}, {nil, -1, math.MinInt, -1, -1},
		// Sums and differences of these would wrap round.
		{nil, 0, math.MaxInt, math.MaxInt, 0}, {nil, 1, math.MaxInt, math.MaxInt, -1}, {[]byte{1}, 0, math.MaxInt, math.MaxInt, -1}, {[]byte{1}, 0, math.MaxInt, math.MaxInt - 1, 1},
		{nil, math.MaxInt, math.MaxInt, 1, -1}, {nil, math.MaxInt - 1, math.MaxInt, 1, math.MaxInt - 1}, {nil, math.MaxInt, math.MaxInt, math.MaxInt, -1}, {nil, math.MaxInt - 3, math.MaxInt, 5, -1},
		{nil, 0, math.MinInt, 1, -1}, {nil, 0, math.MinInt, math.MaxInt, -1}, {nil, math.MaxInt, math.MinInt, math.MaxInt, -1}, {nil, 5, 4, 1, -1},
		{[]byte{255, 255}, 0, math.MaxInt, math.MaxInt - 16, 16}, {[]byte{255, 255}, 0, math.MaxInt, math.MaxInt - 15, -1},
	} {
		if got := bits.Run(x.b, x.from, x.n, x.long); got != x.want {
			t.Errorf("Run(%x, %d, %d, %d): %d, not %d", x.b, x.from, x.n, x.long, got, x.want)
		}
	}
}

// rowAt asks the words of the chapter of one beginning: all of i to below i plus long lie below n and are not there.
func rowAt(taken []bool, i, n, long int) bool {
	for k := i; k < i+long; k++ {
		if k >= n || k < len(taken) && taken[k] {
			return false
		}
	}
	return true
}

// P3.1: Run by the words of the chapter, of every from, n and long.
func TestRunByTheWords(t *testing.T) {
	for _, b := range sets() {
		taken := make([]bool, 8*len(b))
		for i := range taken {
			taken[i] = there(b, i)
		}
		for from := -2; from < 28; from++ {
			for n := -2; n < 30; n++ {
				for long := -1; long < 20; long++ {
					want := -1
					for i := n; i >= from; i-- {
						if long >= 1 && from >= 0 && rowAt(taken, i, n, long) {
							want = i
						}
					}
					if got := bits.Run(b, from, n, long); got != want {
						t.Fatalf("Run(%x, %d, %d, %d): %d, not %d", b, from, n, long, got, want)
					}
				}
			}
		}
	}
}

// P3.1: Of, of known numbers; those from n on and below 0 are left out, also where the last byte has room for them.
func TestOf(t *testing.T) {
	for _, x := range []struct {
		n    int
		is   []int
		want []byte
	}{
		{0, nil, nil}, {0, []int{0}, nil}, {1, nil, []byte{0}}, {1, []int{0}, []byte{1}}, {1, []int{1}, []byte{0}},
		{8, []int{7}, []byte{0x80}}, {8, []int{8}, []byte{0}}, {9, []int{8}, []byte{0, 1}}, {9, []int{9, 15, 16}, []byte{0, 0}},
		{10, []int{9, 0, 3}, []byte{0x09, 0x02}}, {10, []int{3, 3, 3}, []byte{0x08, 0}}, {10, []int{10, 11, 15, 16, 3}, []byte{0x08, 0}},
		{16, []int{-1, -8, -16, math.MinInt, math.MaxInt, 1 << 32, 2}, []byte{0x04, 0}},
		{16, []int{15, 14, 13, 12, 11, 10, 9, 8, 7, 6, 5, 4, 3, 2, 1, 0}, []byte{255, 255}},
	} {
		if got := bits.Of(x.n, x.is...); !bytes.Equal(got, x.want) {
			t.Errorf("Of(%d, %v): %x", x.n, x.is, got)
		}
	}
}

// P3.1: Of, of every n up to the limit, and past it.
func TestOfEveryRoom(t *testing.T) {
	var all []int
	for i := range 1100 {
		all = append(all, 1099-i)
	}
	for n := range 1001 {
		size := n / 8
		if n%8 != 0 {
			size++
		}
		if got := bits.Of(n); !bytes.Equal(got, make([]byte, size)) {
			t.Fatalf("Of(%d): %x", n, got)
		}
		got := bits.Of(n, all...)
		if len(got) != size || bits.Count(got, math.MaxInt) != n || bits.First(got, 0, math.MaxInt) != n {
			t.Fatalf("Of(%d) of all: %x", n, got)
		}
	}
	if got := bits.Of(1000, 999); len(got) != 125 || got[124] != 0x80 {
		t.Errorf("the last one: %x", got)
	}
	for _, n := range []int{-1, -8, math.MinInt, 1001, 1008, 1 << 20, 1 << 32, math.MaxInt - 6, math.MaxInt} {
		if got := bits.Of(n, 0, 1, 2); len(got) != 0 {
			t.Errorf("Of(%d): %d bytes", n, len(got))
		}
	}
}

// P3.1: what Of makes All tells again, rising, and each one once.
func TestOfAndAll(t *testing.T) {
	is := []int{77, 3, 12, 3, -4, 100, 99, 0, 64, 63}
	want := []int{0, 3, 12, 63, 64, 77, 99}
	if got := bits.All(bits.Of(100, is...), 100); !slices.Equal(got, want) {
		t.Errorf("All: %v", got)
	}
	if !slices.Equal(is, []int{77, 3, 12, 3, -4, 100, 99, 0, 64, 63}) {
		t.Errorf("changed: %v", is)
	}
}

// P3.1: what is handed in stays as it was, its spare room too.
func TestHandedInStays(t *testing.T) {
	whole := []byte{0x5A, 0xC3, 0x99, 0x0F, 0xF0}
	b := slices.Clone(whole)
	for i := -9; i < 50; i++ {
		for _, part := range [][]byte{b[:0], b[:2], b[:2:2], b[1:3], b} {
			bits.Has(part, i)
			bits.With(part, i, true)
			bits.With(part, i, false)
			bits.Count(part, i)
			bits.First(part, i, 40)
			bits.Run(part, i, 40, 3)
			bits.All(part, i)
		}
	}
	if !bytes.Equal(b, whole) {
		t.Errorf("changed: %x", b)
	}
}

// P3.1: an answer shares no memory with what was handed in, nor with another answer.
func TestAnswersAreNew(t *testing.T) {
	for _, i := range []int{-1, 3, 16} {
		b := []byte{0x0F, 0xF0}
		one, two := bits.With(b, i, true), bits.With(b, i, true)
		// Spare room is memory, too.
		clear(one[:cap(one)])
		if !bytes.Equal(b, []byte{0x0F, 0xF0}) || !bytes.Equal(two, b) {
			t.Errorf("With of %d: shared: %x, %x", i, b, two)
		}
		clear(b)
		if !bytes.Equal(two, []byte{0x0F, 0xF0}) {
			t.Errorf("With of %d: shared: %x", i, two)
		}
	}
	spare := []byte{1, 2, 3}
	none := bits.With(spare[:0], 0, true)
	clear(none[:cap(none)])
	if !bytes.Equal(spare, []byte{1, 2, 3}) {
		t.Errorf("With of none: shared: %x", spare)
	}
	first, second := bits.Of(20, 5), bits.Of(20, 5)
	clear(first[:cap(first)])
	if !bytes.Equal(second, []byte{0x20, 0, 0}) {
		t.Errorf("Of: shared: %x", second)
	}
	left, right := bits.All(second, 20), bits.All(second, 20)
	clear(left[:cap(left)])
	if !slices.Equal(right, []int{5}) {
		t.Errorf("All: shared: %v", right)
	}
}

// P3.1: great sets, rows that are nearly long enough, and an n without an end are told within moments.
func TestGreatSets(t *testing.T) {
	const size, step = 1 << 20, 100_000
	b := make([]byte, size)
	for i := step - 1; i < 8*size; i += step {
		b[i/8] |= 1 << (i % 8)
	}
	last := 8 * size / step * step
	if got := bits.Run(b, 0, 8*size, step); got != -1 {
		t.Errorf("Run: %d", got)
	}
	if got := bits.Run(b, 0, math.MaxInt, step); got != last {
		t.Errorf("Run beyond: %d, not %d", got, last)
	}
	if got := bits.Count(b, math.MaxInt); got != 8*size/step || len(bits.All(b, math.MaxInt)) != got {
		t.Errorf("Count: %d", got)
	}
	full := bytes.Repeat([]byte{255}, size)
	if got := bits.First(full, math.MinInt, math.MaxInt); got != 8*size {
		t.Errorf("First: %d", got)
	}
	if got := bits.Run(full, 0, math.MaxInt, math.MaxInt-8*size); got != 8*size {
		t.Errorf("Run of a full one: %d", got)
	}
}

// P3.1: several goroutines may call at one time, with the same bytes.
func TestFromSeveralGoroutines(t *testing.T) {
	b, is := []byte{0x0B, 0xF0}, []int{0, 1, 3, 12, 13, 14, 15}
	var all sync.WaitGroup
	for range 8 {
		all.Add(1)
		go func() {
			defer all.Done()
			for range 200 {
				if !bits.Has(b, 3) || !bytes.Equal(bits.With(b, 2, true), []byte{0x0F, 0xF0}) || bits.Count(b, 16) != 7 || bits.First(b, 0, 16) != 2 || bits.Run(b, 0, 16, 5) != 4 || !bytes.Equal(bits.Of(16, is...), b) || !slices.Equal(bits.All(b, 16), is) {
					t.Error("another answer")
					return
				}
			}
		}()
	}
	all.Wait()
}
