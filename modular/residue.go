package modular

import "slices"

// The calls of package prime ask each time whether p is a prime, which takes much
// longer than what they do then: so residues are reckoned with here, once a call
// of this package has asked.

// together replaces each element of f that has one of g beside it by what op makes
// of both. f has at least as many elements as g.
func together[T any](f, g []T, op func(a, b T) T) {
	for i, b := range g {
		f[i] = op(f[i], b)
	}
}

// addTimes adds c times g to f, which has at least as many coefficients; c and
// those of g are residues, those of f are from 0 to p*p - 1.
func addTimes(f []int, c int, g []int, p int) {
	if c == 0 {
		return
	}
	// To subtract p*p takes less time than to divide by p; twice p*p is an int.
	square := p * p
	together(f, g, func(a, b int) int {
		a += c * b
		if a >= square {
			a -= square
		}
		return a
	})
}

// product multiplies two plain polynomials.
func product(f, g []int, p int) []int {
	l := make([]int, max(len(f)+len(g)-1, 0))
	for i, c := range f {
		addTimes(l[i:], c, g, p)
	}
	return settle(l, p)
}

// scaled multiplies the plain f by a residue, in f's memory.
func scaled(f []int, c, p int) []int {
	for i := range f {
		f[i] *= c
	}
	return settle(f, p)
}

// plain returns f in plain form, in memory of its own.
func plain(f []int, p int) []int {
	return settle(slices.Clone(f), p)
}

// settle returns f in plain form, in f's memory.
func settle(f []int, p int) []int {
	for i, c := range f {
		f[i] = residue(c, p)
	}
	for len(f) > 0 && f[len(f)-1] == 0 {
		f = f[:len(f)-1]
	}
	return f
}

// residue returns the residue of a modulo p, which is positive.
func residue(a, p int) int {
	r := a % p
	if r < 0 {
		return r + p
	}
	return r
}

// inverse divides by a residue that is not 0: its power p - 1 is 1.
func inverse(a, p int) int {
	return power(a, p-2, 1, func(a, b int) int { return a * b % p })
}

// power squares as often as n has digits, so that great powers end too.
func power[T any](a T, n int, one T, times func(a, b T) T) T {
	if n == 0 {
		return one
	}
	half := power(a, n/2, one, times)
	square := times(half, half)
	if n%2 == 0 {
		return square
	}
	return times(square, a)
}
