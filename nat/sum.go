package nat

import "math/bits"

// Add returns the sum (A3).
func Add(a, b []uint32) []uint32 {
	a, b = trim(a), trim(b)
	if len(a) < len(b) {
		a, b = b, a
	}
	sum := make([]uint32, len(a)+1)
	copy(sum, a)
	addTo(sum, b)
	return trim(sum)
}

// Sub returns the difference a - b and true; or the empty list and false if b
// is greater than a (A3).
func Sub(a, b []uint32) ([]uint32, bool) {
	a, b = trim(a), trim(b)
	if Cmp(a, b) < 0 {
		return nil, false
	}
	difference := make([]uint32, len(a))
	copy(difference, a)
	takeFrom(difference, b)
	return trim(difference), true
}

// Mul returns the product (A4).
func Mul(a, b []uint32) []uint32 {
	a, b = trim(a), trim(b)
	// The inner loop costs less by the limb: the longer number goes there.
	if len(a) > len(b) {
		a, b = b, a
	}
	product := make([]uint32, len(a)+len(b))
	for i := range len(a) {
		product[i+len(b)] = addTimes(product[i:], b, a[i])
	}
	return trim(product)
}

// addTo adds b to sum in place and returns the carry out of sum, which is at
// least as long as b.
func addTo(sum, b []uint32) uint32 {
	carry := uint32(0)
	for i := range len(b) {
		sum[i], carry = bits.Add32(sum[i], b[i], carry)
	}
	for i := range len(sum) - len(b) {
		sum[len(b)+i], carry = bits.Add32(sum[len(b)+i], 0, carry)
	}
	return carry
}

// takeFrom takes b, which is at most rest, from rest in place.
func takeFrom(rest, b []uint32) {
	borrow := uint32(0)
	for i := range len(b) {
		rest[i], borrow = bits.Sub32(rest[i], b[i], borrow)
	}
	for i := range len(rest) - len(b) {
		rest[len(b)+i], borrow = bits.Sub32(rest[len(b)+i], 0, borrow)
	}
}

// addTimes adds n times b to the first limbs of sum, as many as b has, and
// returns the carry out of these.
func addTimes(sum, b []uint32, n uint32) uint32 {
	carry := uint64(0)
	for i := range len(b) {
		// The greatest product and two limbs are just below 2^64.
		carry += uint64(b[i])*uint64(n) + uint64(sum[i])
		sum[i] = uint32(carry)
		carry >>= limbBits
	}
	return uint32(carry)
}

// takeTimes takes n times b from rest, which is a limb longer than b, modulo
// what rest can hold, and returns the borrow.
func takeTimes(rest, b []uint32, n uint32) uint32 {
	carry, borrow := uint64(0), uint32(0)
	for i := range len(b) {
		carry += uint64(b[i]) * uint64(n)
		rest[i], borrow = bits.Sub32(rest[i], uint32(carry), borrow)
		carry >>= limbBits
	}
	rest[len(b)], borrow = bits.Sub32(rest[len(b)], uint32(carry), borrow)
	return borrow
}
