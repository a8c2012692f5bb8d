package approx

import (
	"cmp"
	"math"

	"primrose/api"
	"primrose/fraction"
)

// Order returns -1, 0 or 1 if a comes before b, is equivalent to b, or comes
// after b: NaN comes first, and the negative zero before the positive one (D3).
func Order(a, b float64) int {
	switch {
	case a < b:
		return -1
	case a > b:
		return 1
	}
	// What is left are equal floats, two zeros, or a NaN, which no comparison
	// holds for.
	return cmp.Compare(standing(a), standing(b))
}

// standing orders what < does not: NaN, the negative zero, all others.
func standing(f float64) int {
	switch {
	case math.IsNaN(f):
		return 0
	case f == 0 && math.Signbit(f):
		return 1
	}
	return 2
}

// Cmp returns -1, 0 or 1 if x is less than, equal to, or greater than f, and
// true; or 0 and false if f is NaN (D4).
func Cmp(x api.Rat, f float64) (int, bool) {
	switch {
	case math.IsNaN(f):
		return 0, false
	case math.IsInf(f, 1):
		return -1, true
	case math.IsInf(f, -1):
		return 1, true
	}
	y, _ := From(f)
	return fraction.Cmp(x, y), true
}

// Mid returns the float that is nearest to the middle of a and b (D5).
func Mid(a, b float64) float64 {
	sum := a + b
	switch {
	case math.IsNaN(sum):
		// There are many NaN: the answer is always the same.
		return math.NaN()
	case math.IsInf(sum, 0):
		// Finite floats with such a sum are so great that halving them is exact.
		return a/2 + b/2
	}
	// This rounds once: sums below 2^-1021 are exact, and halving others is.
	return sum / 2
}
