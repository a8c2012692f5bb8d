package nat

import (
	"math"
	"math/bits"
	"slices"
)

// DivMod returns the quotient, rounded down, the remainder, and true; or two
// empty lists and false if b is 0 (A5).
func DivMod(a, b []uint32) (q, r []uint32, ok bool) {
	a, b = trim(a), trim(b)
	switch {
	case len(b) == 0:
		return nil, nil, false
	case Cmp(a, b) < 0:
		return nil, Plain(a), true
	case len(a) <= 2:
		x, y := wordAt(a, 0), wordAt(b, 0)
		return fromWord(x / y), fromWord(x % y), true
	case len(b) == 1:
		q = slices.Clone(a)
		rest := divideInPlace(q, b[0])
		return trim(q), fromWord(uint64(rest)), true
	}
	q, r = divideLong(a, b)
	return q, r, true
}

// divideInPlace leaves the quotient in a and returns the remainder.
func divideInPlace(a []uint32, b uint32) uint32 {
	rest := uint64(0)
	for k := range len(a) {
		i := len(a) - 1 - k
		rest = rest<<limbBits | uint64(a[i])
		a[i] = uint32(rest / uint64(b))
		rest %= uint64(b)
	}
	return uint32(rest)
}

// divideLong divides a by b, which is plain, at most a, and of two limbs or
// more. Both are shifted until the highest bit of b is set: without that, the
// highest limbs would not tell a quotient's limb well enough.
func divideLong(a, b []uint32) (q, r []uint32) {
	places := uint(bits.LeadingZeros32(b[len(b)-1]))
	rest, divisor := make([]uint32, len(a)+1), make([]uint32, len(b)+1)
	shiftUp(rest, a, places)
	shiftUp(divisor, b, places)
	divisor = trim(divisor)
	q = make([]uint32, len(a)-len(b)+1)
limbs:
	for k := range len(q) {
		i := len(q) - 1 - k
		window := rest[i : i+len(divisor)+1]
		estimate := estimateLimb(window, divisor)
		borrow := takeTimes(window, divisor, estimate)
		for {
			if borrow == 0 {
				q[i] = estimate
				continue limbs
			}
			estimate--
			borrow -= addTo(window, divisor)
		}
	}
	return trim(q), trim(shiftDown(rest, places))
}

// estimateLimb divides the three highest limbs of window by the two highest of
// divisor, of which the first has its highest bit set. The estimate is the
// quotient's limb, or one more.
func estimateLimb(window, divisor []uint32) uint32 {
	n := len(divisor)
	first, second := uint64(divisor[n-1]), uint64(divisor[n-2])
	high := uint64(window[n])<<limbBits | uint64(window[n-1])
	low := uint64(window[n-2])
	estimate, rest := high/first, high%first
	for estimate > math.MaxUint32 || estimate*second > rest<<limbBits|low {
		estimate--
		rest += first
		if rest > math.MaxUint32 { // nothing of second can exceed it any more
			break
		}
	}
	return uint32(estimate)
}
