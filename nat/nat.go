// Package nat is layer 1: see shared/doc/01-nat.md.
package nat

import (
	"math/bits"
	"slices"
)

const limbBits = 32

// Plain returns the same number without leading zero limbs (A1).
func Plain(a []uint32) []uint32 {
	// A copy, so that no answer shares memory with an argument.
	return trim(slices.Clone(a))
}

// Cmp returns -1, 0 or 1 if a is less than, equal to, or greater than b (A2).
func Cmp(a, b []uint32) int {
	a, b = trim(a), trim(b)
	if len(a) != len(b) {
		return order(len(a) < len(b))
	}
	for k := range len(a) {
		i := len(a) - 1 - k
		if a[i] != b[i] {
			return order(a[i] < b[i])
		}
	}
	return 0
}

// Bits returns the number of binary digits of a, and 0 for 0 (A7).
func Bits(a []uint32) int {
	a = trim(a)
	if len(a) == 0 {
		return 0
	}
	top := len(a) - 1
	return top*limbBits + bits.Len32(a[top])
}

// Of returns the number n, and 0 if n is negative (A8).
func Of(n int) []uint32 {
	return fromWord(uint64(max(n, 0)))
}

// Small returns a as an int and true, or 0 and false if a does not fit (A8).
func Small(a []uint32) (int, bool) {
	a = trim(a)
	if Bits(a) > 63 {
		return 0, false
	}
	return int(wordAt(a, 0)), true
}

// trim gives three indices, so that an append to what it returns can't
// overwrite what stands behind it.
func trim(a []uint32) []uint32 {
	for k := range len(a) {
		n := len(a) - k
		if a[n-1] != 0 {
			return a[:n:n]
		}
	}
	return nil
}

func order(less bool) int {
	if less {
		return -1
	}
	return 1
}

func fromWord(x uint64) []uint32 {
	return trim([]uint32{uint32(x), uint32(x >> limbBits)})
}

// wordAt returns 64 binary digits of a, from the given place on.
func wordAt(a []uint32, place int) uint64 {
	i, n := place/limbBits, uint(place%limbBits)
	low := uint64(limbAt(a, i)) | uint64(limbAt(a, i+1))<<limbBits
	return low>>n | uint64(limbAt(a, i+2))<<(64-n)
}

func limbAt(a []uint32, i int) uint32 {
	if i < len(a) {
		return a[i]
	}
	return 0
}
