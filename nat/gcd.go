package nat

import "math/bits"

// steps tells what some steps of Euclid's algorithm make of a and b: if their
// number is odd, a*aa - b*ab and b*bb - a*ba; otherwise b*ab - a*aa and
// a*ba - b*bb. Each factor is less than 2^32.
type steps struct {
	aa, ab, ba, bb uint64
	odd            bool
}

// Gcd returns the greatest common divisor; for 0 and 0 it returns 0 (A6).
func Gcd(a, b []uint32) []uint32 {
	a, b = trim(a), trim(b)
	if Cmp(a, b) < 0 {
		a, b = b, a
	}
	for len(b) > 2 {
		if s := lookAhead(a, b); s.ab > 0 {
			a, b = s.apply(a, b)
		} else {
			_, r, _ := DivMod(a, b)
			a, b = b, r
		}
	}
	if len(b) == 0 {
		return Plain(a)
	}
	_, r, _ := DivMod(a, b)
	return fromWord(wordGcd(wordAt(b, 0), wordAt(r, 0)))
}

func wordGcd(a, b uint64) uint64 {
	for b != 0 {
		a, b = b, a%b
	}
	return a
}

// lookAhead takes Euclid's steps on the highest 64 binary digits of a, and on
// those of b at the same places, while the lower digits can't change a quotient
// (Lehmer's algorithm, with Collins' bound): many steps then cost one passage
// through the limbs. It needs an a of three limbs or more that is at least b.
// If nothing is gained, ab is 0.
func lookAhead(a, b []uint32) steps {
	place := Bits(a) - 64
	x, y := wordAt(a, place), wordAt(b, place)
	s := steps{ba: 1}
	nextA, nextB := uint64(0), uint64(1)
	for y >= nextB && x-y >= s.bb+nextB {
		q := x / y
		x, y = y, x%y
		s.aa, s.ba, nextA = s.ba, nextA, s.ba+q*nextA
		s.ab, s.bb, nextB = s.bb, nextB, s.bb+q*nextB
		s.odd = !s.odd
	}
	return s
}

func (s steps) apply(a, b []uint32) ([]uint32, []uint32) {
	// Both results are at most b, so that its length holds them.
	n := len(b)
	if s.odd {
		return combine(a[:n], s.aa, b, s.ab), combine(b, s.bb, a[:n], s.ba)
	}
	return combine(b, s.ab, a[:n], s.aa), combine(a[:n], s.ba, b, s.bb)
}

// combine returns a*m - b*n modulo what as many limbs as a and b have can hold.
func combine(a []uint32, m uint64, b []uint32, n uint64) []uint32 {
	plus, minus, borrow := uint64(0), uint64(0), uint32(0)
	difference := make([]uint32, len(a))
	for i := range len(a) {
		plus += uint64(a[i]) * m
		minus += uint64(b[i]) * n
		difference[i], borrow = bits.Sub32(uint32(plus), uint32(minus), borrow)
		plus >>= limbBits
		minus >>= limbBits
	}
	return trim(difference)
}
