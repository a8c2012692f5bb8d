package modular

import (
	"primrose/api"
	"primrose/prime"
)

// DivMod returns q and r with f = q*g + r, where r is 0 or has a smaller degree
// than g. It returns ErrPrime if p is not a prime, otherwise ErrZero if g is 0
// (J3).
func DivMod(f, g []int, p int) (q, r []int, e api.Errno) {
	if !prime.Is(p) {
		return nil, nil, api.ErrPrime
	}
	g = plain(g, p)
	if len(g) == 0 {
		return nil, nil, api.ErrZero
	}
	// If g is c times a monic polynomial, that one's quotient is c times as great.
	unit := inverse(g[len(g)-1], p)
	q, r = divide(plain(f, p), scaled(g, unit, p), p)
	return scaled(q, unit, p), r, api.OK
}

// Monic returns f divided by its last coefficient, or 0 for 0 (J4).
func Monic(f []int, p int) []int {
	if !prime.Is(p) {
		return nil
	}
	return monic(plain(f, p), p)
}

// Gcd returns the monic greatest common divisor, or 0 for 0 and 0 (J4).
func Gcd(f, g []int, p int) []int {
	if !prime.Is(p) {
		return nil
	}
	f, g = monic(plain(f, p), p), monic(plain(g, p), p)
	for len(g) > 0 {
		_, r := divide(f, g, p)
		f, g = g, monic(r, p)
	}
	return f
}

// Pow returns the remainder of f to the power of n, divided by m. It returns
// ErrPrime if p is not a prime, otherwise ErrArg if n is negative, otherwise
// ErrZero if m is 0 (J6).
func Pow(f []int, n int, m []int, p int) ([]int, api.Errno) {
	if !prime.Is(p) {
		return nil, api.ErrPrime
	}
	if n < 0 {
		return nil, api.ErrArg
	}
	m = monic(plain(m, p), p)
	if len(m) == 0 {
		return nil, api.ErrZero
	}
	rest := func(f []int) []int {
		_, r := divide(f, m, p)
		return r
	}
	times := func(f, g []int) []int { return rest(product(f, g, p)) }
	return power(rest(plain(f, p)), n, rest([]int{1}), times), api.OK
}

// divide returns the quotient and the rest of the plain f, divided by g, which is
// plain and monic. The rest is made in f's memory.
func divide(f, g []int, p int) (q, r []int) {
	q = make([]int, max(len(f)-len(g)+1, 0))
	for place := len(q) - 1; place >= 0; place-- {
		q[place] = f[place+len(g)-1] % p
		addTimes(f[place:], residue(-q[place], p), g, p)
	}
	return q, settle(f, p)
}

// monic divides the plain f by its last coefficient, in f's memory.
func monic(f []int, p int) []int {
	if len(f) == 0 {
		return nil
	}
	return scaled(f, inverse(f[len(f)-1], p), p)
}
