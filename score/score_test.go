package score_test

import (
	"math"
	"slices"
	"sync"
	"testing"

	"purlin/score"
)

var (
	nan  = math.NaN()
	inf  = math.Inf(1)
	neg0 = math.Copysign(0, -1)
	tiny = math.SmallestNonzeroFloat64
	huge = math.MaxFloat64
)

// nones are numbers that are none, with other bits each: quiet, signalling, of either sign.
func nones() []float64 {
	var l []float64
	for _, b := range []uint64{0x7FF8000000000001, 0x7FF0000000000001, 0xFFF8000000000000, 0xFFFFFFFFFFFFFFFF} {
		l = append(l, math.Float64frombits(b))
	}
	return l
}

// rising holds one number of each place, in their order.
func rising() []float64 {
	return []float64{nan, -inf, -huge, -(1 << 53), -2, -1.5, -1, -tiny, neg0, 0, tiny, 0.5, 1, 1.5, math.Nextafter(2, 0), 2, 1 << 53, huge, inf}
}

// same holds two numbers against each other bit by bit; of those that are none the bits don't count.
func same(a, b float64) bool {
	if a != a || b != b {
		return a != a && b != b
	}
	return math.Float64bits(a) == math.Float64bits(b)
}

// lists calls f with every list of at most long numbers of these.
func lists(of []float64, long int, f func(xs []float64)) {
	var grow func(xs []float64)
	grow = func(xs []float64) {
		f(xs)
		if len(xs) == long {
			return
		}
		for _, x := range of {
			grow(append(slices.Clone(xs), x))
		}
	}
	grow(nil)
}

// P1.1: Share.
func TestShare(t *testing.T) {
	for _, x := range []struct {
		free, total int
		want        float64
	}{
		{1, 2, 0.5}, {3, 4, 0.75}, {4, 4, 1}, {9, 4, 2.25}, {1, 3, 1.0 / 3},
		{-3, 2, -1.5}, {3, -2, -1.5}, {-3, -2, 1.5},
		{0, 5, 0}, {0, -5, neg0},
		{0, 0, nan}, {1, 0, inf}, {-1, 0, -inf},
		{math.MaxInt, 0, inf}, {math.MinInt, 0, -inf},
		{math.MaxInt, math.MaxInt, 1}, {math.MinInt, math.MaxInt, -1}, {math.MaxInt, 1, 1 << 63},
		// Each is made a float64 first: 2^53 + 1 is none, it becomes 2^53.
		{1<<53 + 1, 1, 1 << 53}, {1, 1<<53 + 1, 1.0 / (1 << 53)}, {1<<53 + 1, 1 << 53, 1},
	} {
		if got := score.Share(x.free, x.total); !same(got, x.want) {
			t.Errorf("Share(%d, %d): %v, not %v", x.free, x.total, got, x.want)
		}
	}
}

// P1.1: Alike, Less, of every two places of the order.
func TestAlikeAndLess(t *testing.T) {
	l := rising()
	for i, a := range l {
		for k, b := range l {
			if got := score.Alike(a, b); got != (i == k) {
				t.Errorf("Alike(%v, %v): %v", a, b, got)
			}
			if got := score.Less(a, b); got != (i < k) {
				t.Errorf("Less(%v, %v): %v", a, b, got)
			}
		}
	}
}

// P1.1: those that are none are alike and stand ahead, whatever their bits.
func TestNonesAreAlike(t *testing.T) {
	for _, a := range nones() {
		for _, b := range nones() {
			if !score.Alike(a, b) || score.Less(a, b) {
				t.Errorf("%x, %x: not alike", math.Float64bits(a), math.Float64bits(b))
			}
		}
		for _, b := range rising()[1:] {
			if score.Alike(a, b) || score.Alike(b, a) || !score.Less(a, b) || score.Less(b, a) {
				t.Errorf("%x, %v: not ahead", math.Float64bits(a), b)
			}
		}
	}
}

// P1.1: Best.
func TestBest(t *testing.T) {
	for _, x := range []struct {
		xs   []float64
		want int
	}{
		{nil, -1}, {[]float64{}, -1}, {[]float64{nan}, -1}, {nones(), -1},
		{[]float64{nan, 2, inf, neg0}, 2},
		{[]float64{1, 3, 2}, 1}, {[]float64{3, 3, 3}, 0}, {[]float64{1, 3, 3}, 1},
		{[]float64{-inf}, 0}, {[]float64{nan, -inf}, 1}, {[]float64{-inf, nan, -inf}, 0}, {[]float64{-inf, -huge}, 1},
		{[]float64{neg0, 0}, 1}, {[]float64{0, neg0}, 0}, {[]float64{neg0, 0, neg0, 0}, 1}, {[]float64{neg0, neg0}, 0},
		{[]float64{-2, -1, nan}, 1}, {[]float64{2, nan, 1}, 0}, {[]float64{inf, huge, inf}, 0},
	} {
		if got := score.Best(x.xs...); got != x.want {
			t.Errorf("Best(%v): %d, not %d", x.xs, got, x.want)
		}
	}
	if got := score.Best(); got != -1 {
		t.Errorf("Best(): %d", got)
	}
}

// P1.1: Order.
func TestOrder(t *testing.T) {
	for _, x := range []struct {
		xs   []float64
		want []int
	}{
		{nil, nil}, {[]float64{}, nil}, {[]float64{7}, []int{0}}, {nones(), []int{0, 1, 2, 3}},
		{[]float64{3, 1, 2}, []int{1, 2, 0}}, {[]float64{1, 1, 1}, []int{0, 1, 2}},
		{[]float64{2, 1, 2, 1, 2}, []int{1, 3, 0, 2, 4}},
		{[]float64{0, neg0, 0, neg0}, []int{1, 3, 0, 2}},
		{[]float64{inf, 0, neg0, -inf, nan}, []int{4, 3, 2, 1, 0}},
		{[]float64{1, nan, -1, nan}, []int{1, 3, 2, 0}},
	} {
		if got := score.Order(x.xs...); !slices.Equal(got, x.want) {
			t.Errorf("Order(%v): %v, not %v", x.xs, got, x.want)
		}
	}
}

// P1.1: Best and Order, by the words of the chapter, of all short lists.
func TestAllShortLists(t *testing.T) {
	of := []float64{nan, -inf, neg0, 0, 1, inf}
	lists(of, 5, func(xs []float64) {
		order := make([]int, 0, len(xs))
		best := -1
		for _, x := range of {
			first := -1
			for i := range xs {
				if same(xs[i], x) {
					order = append(order, i)
					if first < 0 {
						first = i
					}
				}
			}
			if first >= 0 && x == x {
				best = first
			}
		}
		if got := score.Order(xs...); !slices.Equal(got, order) {
			t.Fatalf("Order(%v): %v, not %v", xs, got, order)
		}
		if got := score.Best(xs...); got != best {
			t.Fatalf("Best(%v): %d, not %d", xs, got, best)
		}
	})
}

// P1.1: of many numbers, too, alike ones stay as they came.
func TestOrderOfMany(t *testing.T) {
	l := rising()
	xs := make([]float64, 3000)
	for i := range xs {
		xs[i] = l[(i*7919+i/13)%len(l)]
	}
	order := score.Order(xs...)
	if len(order) != len(xs) {
		t.Fatalf("%d places of %d", len(order), len(xs))
	}
	for i := 1; i < len(order); i++ {
		a, b := order[i-1], order[i]
		if !score.Less(xs[a], xs[b]) && !(score.Alike(xs[a], xs[b]) && a < b) {
			t.Fatalf("place %d stands ahead of place %d: %v, %v", a, b, xs[a], xs[b])
		}
	}
}

// P1.2: Mean.
func TestMean(t *testing.T) {
	for _, x := range []struct {
		xs   []float64
		want float64
	}{
		{nil, nan}, {[]float64{}, nan}, {[]float64{7}, 7}, {[]float64{1, 2, 6}, 3}, {[]float64{1, 2}, 1.5}, {[]float64{-1, -2}, -1.5},
		{[]float64{neg0}, neg0}, {[]float64{neg0, neg0, neg0}, neg0}, {[]float64{neg0, 0}, 0}, {[]float64{0, neg0}, 0}, {[]float64{1, -1}, 0},
		{[]float64{inf}, inf}, {[]float64{1, -inf}, -inf}, {[]float64{inf, -inf}, nan}, {[]float64{inf, inf}, inf},
		{[]float64{nan}, nan}, {[]float64{1, nan, inf}, nan},
		{[]float64{huge, huge}, inf}, {[]float64{-huge, -huge}, -inf}, {[]float64{huge, -huge, 3}, 1},
		// Each further one is added to what was there: the order is to be seen.
		{[]float64{1 << 53, 1, 1, 1}, 1 << 51}, {[]float64{1, 1, 1 << 53, 0}, 1<<51 + 0.5},
		{[]float64{huge, huge, -huge}, inf}, {[]float64{huge, -huge, huge}, huge / 3},
		{[]float64{1e16, 1, -1e16}, 0}, {[]float64{1e16, -1e16, 1}, 1.0 / 3},
	} {
		if got := score.Mean(x.xs...); !same(got, x.want) {
			t.Errorf("Mean(%v): %v, not %v", x.xs, got, x.want)
		}
	}
}

// P1.2: Clamp.
func TestClamp(t *testing.T) {
	for _, x := range []struct{ x, lo, hi, want float64 }{
		{0, 1, 3, 1}, {1, 1, 3, 1}, {2, 1, 3, 2}, {3, 1, 3, 3}, {4, 1, 3, 3},
		{2, 3, 1, nan}, {3, 3, 1, nan}, {1, 3, 1, nan}, {5, 2, 2, 2}, {-5, 2, 2, 2},
		{nan, 1, 3, nan}, {2, nan, 3, nan}, {2, 1, nan, nan}, {nan, nan, nan, nan}, {inf, nan, inf, nan}, {-inf, -inf, nan, nan},
		{inf, 1, 3, 3}, {-inf, 1, 3, 1}, {inf, -inf, inf, inf}, {-inf, -inf, inf, -inf}, {2, -inf, -inf, -inf}, {2, inf, inf, inf}, {2, inf, -inf, nan},
		{neg0, 0, 1, 0}, {0, -1, neg0, neg0}, {0, neg0, 0, 0}, {neg0, neg0, 0, neg0}, {0, neg0, neg0, neg0}, {neg0, 0, 0, 0}, {1, 0, neg0, nan}, {-1, 0, neg0, nan},
	} {
		if got := score.Clamp(x.x, x.lo, x.hi); !same(got, x.want) {
			t.Errorf("Clamp(%v, %v, %v): %v, not %v", x.x, x.lo, x.hi, got, x.want)
		}
	}
}

// P1.2: Clamp, by the places of the order, of every three numbers.
func TestClampOfEveryThree(t *testing.T) {
	l := rising()
	for i, x := range l {
		for j, lo := range l {
			for k, hi := range l {
				want := l[min(max(i, j), k)]
				if i == 0 || j == 0 || k == 0 || k < j {
					want = nan
				}
				if got := score.Clamp(x, lo, hi); !same(got, want) {
					t.Errorf("Clamp(%v, %v, %v): %v, not %v", x, lo, hi, got, want)
				}
			}
		}
	}
}

// P1.2: Text.
func TestText(t *testing.T) {
	for _, x := range []struct {
		x    float64
		want string
	}{
		{nan, "nan"}, {inf, "+inf"}, {-inf, "-inf"}, {0, "+0"}, {neg0, "-0"},
		{1, "+1"}, {-1, "-1"}, {12, "+12"}, {-7, "-7"}, {100, "+100"},
		{0.5, "+0"}, {-0.5, "-0"}, {tiny, "+0"}, {-tiny, "-0"},
		{0.9999999999999999, "+0"}, {12.9, "+12"}, {-12.9, "-12"}, {2.5, "+2"}, {-3.5, "-3"},
		{1 << 31, "+2147483648"}, {-(1 << 32), "-4294967296"}, {1e15 + 0.5, "+1000000000000000"}, {123456789.75, "+123456789"},
		{1 << 52, "+4503599627370496"}, {1<<53 - 1, "+9007199254740991"}, {-(1<<53 - 1), "-9007199254740991"},
		{1 << 53, "many"}, {-(1 << 53), "many"}, {1 << 62, "many"}, {1 << 63, "many"}, {-(1 << 63), "many"}, {1e19, "many"}, {huge, "many"}, {-huge, "many"},
	} {
		if got := score.Text(x.x); got != x.want {
			t.Errorf("Text(%v): %s, not %s", x.x, got, x.want)
		}
	}
	for _, x := range nones() {
		if got := score.Text(x); got != "nan" {
			t.Errorf("Text(%x): %s", math.Float64bits(x), got)
		}
	}
}

// P1.1, P1.2: what is handed in stays as it was, its spare room too, and an answer is nobody else's.
func TestHandedInStays(t *testing.T) {
	whole := []float64{5, nan, neg0, 5, 0, -inf, 8, 9}
	was := slices.Clone(whole)
	xs := whole[:6]
	one, two := score.Order(xs...), score.Order(xs...)
	score.Best(xs...)
	score.Mean(xs...)
	if !slices.EqualFunc(whole, was, same) {
		t.Errorf("changed: %v", whole)
	}
	one[0] = -9
	if want := []int{1, 5, 2, 4, 0, 3}; !slices.Equal(two, want) || !slices.Equal(score.Order(xs...), want) {
		t.Errorf("shared: %v, %v", two, score.Order(xs...))
	}
}

// P1.1, P1.2: several goroutines may call at one time, with the same list.
func TestFromSeveralGoroutines(t *testing.T) {
	xs := []float64{2, nan, 1, 2}
	var all sync.WaitGroup
	for range 8 {
		all.Add(1)
		go func() {
			defer all.Done()
			for range 200 {
				if !slices.Equal(score.Order(xs...), []int{1, 2, 0, 3}) || score.Best(xs...) != 0 || !same(score.Mean(xs...), nan) {
					t.Error("another answer")
					return
				}
			}
		}()
	}
	all.Wait()
}
