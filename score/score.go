// Package score reckons with numbers that may be none: how full something is, and how good. Its chapter: shared/doc/01-score.md.
package score

import (
	"cmp"
	"math"
	"slices"
	"strconv"
)

// many is the least whole part that Text does not spell: from there on a float64 leaves whole numbers out.
const many = 1 << 53

// Share tells what part of total is free. A total of 0 has no case of its own: floats divide to NaN or to an infinity by themselves.
func Share(free int, total int) float64 {
	return float64(free) / float64(total)
}

// Alike tells whether a and b have the same place in the order.
func Alike(a float64, b float64) bool {
	return compare(a, b) == 0
}

// Less tells whether a stands ahead of b in the order.
func Less(a float64, b float64) bool {
	return compare(a, b) < 0
}

// Best tells the first place of the number that stands last in the order; -1, if none of xs is a number.
func Best(xs ...float64) int {
	best := -1
	for i, x := range xs {
		if math.IsNaN(x) {
			continue
		}
		if best < 0 || Less(xs[best], x) {
			best = i
		}
	}
	return best
}

// Order tells all places, by the order of their numbers.
func Order(xs ...float64) []int {
	places := make([]int, len(xs))
	for i := range places {
		places[i] = i
	}
	slices.SortStableFunc(places, func(i, k int) int { return compare(xs[i], xs[k]) })
	return places
}

// Mean tells the sum of xs by how many they are. The sum begins with the first one, not with 0: else a sum of zeros below 0 would lie above.
func Mean(xs ...float64) float64 {
	if len(xs) == 0 {
		return math.NaN()
	}
	sum := xs[0]
	for _, x := range xs[1:] {
		sum += x
	}
	return sum / float64(len(xs))
}

// Clamp tells x, or the bound that x lies beyond. Bounds of 0 hold by the order, too: they let only zeros of their own side pass.
func Clamp(x float64, lo float64, hi float64) float64 {
	switch {
	case math.IsNaN(x) || math.IsNaN(lo) || math.IsNaN(hi) || Less(hi, lo):
		return math.NaN()
	case Less(x, lo):
		return lo
	case Less(hi, x):
		return hi
	}
	return x
}

// Text spells the sign and the whole part of x.
func Text(x float64) string {
	if math.IsNaN(x) {
		return "nan"
	}
	sign := "+"
	if math.Signbit(x) {
		sign = "-"
	}
	size := math.Abs(x)
	switch {
	case math.IsInf(size, 1):
		return sign + "inf"
	case size >= many:
		return "many"
	}
	return sign + strconv.FormatInt(int64(size), 10)
}

// compare tells by its sign whether a stands ahead of b in the order, with it, or behind it.
func compare(a, b float64) int {
	if a == 0 && b == 0 {
		// The library takes both zeros for one; only their signs tell them apart.
		a, b = math.Copysign(1, a), math.Copysign(1, b)
	}
	return cmp.Compare(a, b)
}
