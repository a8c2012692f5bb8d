package nat

import "primrose/api"

// Shift returns a times 2^n, rounded down, and true; or the empty list and
// false if n is out of the limits (A7).
func Shift(a []uint32, n int) ([]uint32, bool) {
	if n < -api.MaxShift || n > api.MaxShift {
		return nil, false
	}
	a = trim(a)
	if n < 0 {
		gone := min(-n/limbBits, len(a))
		return trim(shiftDown(a[gone:], uint(-n%limbBits))), true
	}
	shifted := make([]uint32, n/limbBits+len(a)+1)
	shiftUp(shifted[n/limbBits:], a, uint(n%limbBits))
	return trim(shifted), true
}

// shiftUp writes a, shifted by less than a limb's bits, into target, which is a
// limb longer than a.
func shiftUp(target, a []uint32, n uint) {
	carry := uint32(0)
	for i := range len(a) {
		target[i] = a[i]<<n | carry
		carry = a[i] >> (limbBits - n)
	}
	target[len(a)] = carry
}

// shiftDown returns a, shifted by less than a limb's bits, with as many limbs
// as a has.
func shiftDown(a []uint32, n uint) []uint32 {
	shifted := make([]uint32, len(a))
	for i := range len(a) {
		shifted[i] = a[i]>>n | limbAt(a, i+1)<<(limbBits-n)
	}
	return shifted
}
