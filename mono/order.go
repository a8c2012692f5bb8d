package mono

import (
	"cmp"
	"slices"

	"primrose/api"
)

// Cmp returns -1, 0 or 1 if a is less than, equal to, or greater than b in the
// Order of r, or 0 if Right(r, a) or Right(r, b) is false (F4).
func Cmp(r api.Ring, a, b []int) int {
	// The ring is checked once: this is asked more often than anything else.
	if !Right(r, a) || !areAlike(a, b) {
		return 0
	}
	return compare(r.Order, r.First, a, b)
}

// compare is Cmp of monomials of a valid ring with that Order and First. Lex has
// no case, as it begins where the others end: with what settles equal degrees.
func compare(order, first int, a, b []int) int {
	settle := firstDifference
	switch order {
	case api.Block:
		if c := compare(api.Grevlex, 0, a[:first], b[:first]); c != 0 {
			return c
		}
		a, b = a[first:], b[first:]
		fallthrough
	case api.Grevlex:
		settle = lastDifference
		fallthrough
	case api.Grlex:
		if c := cmp.Compare(sum(a), sum(b)); c != 0 {
			return c
		}
	}
	return settle(a, b)
}

// firstDifference lets the greater exponent win where a and b first differ.
func firstDifference(a, b []int) int {
	return slices.Compare(a, b)
}

// lastDifference lets the smaller exponent win where a and b last differ.
func lastDifference(a, b []int) int {
	for i := len(a) - 1; i >= 0; i-- {
		if a[i] != b[i] {
			return cmp.Compare(b[i], a[i])
		}
	}
	return 0
}
