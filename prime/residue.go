package prime

import (
	"primrose/api"
	"primrose/fraction"
	"primrose/whole"
)

// Mod returns the residue of a, or ErrPrime if p is not a prime (E2).
func Mod(a api.Int, p int) (int, api.Errno) {
	if !Is(p) {
		return 0, api.ErrPrime
	}
	return wholeResidue(a, p), api.OK
}

// Of returns the residue of x: that whose product with the residue of Den is
// the residue of Num. It returns ErrPrime if p is not a prime, otherwise
// ErrZero if p divides the Den of the plain x (E5).
func Of(x api.Rat, p int) (int, api.Errno) {
	if !Is(p) {
		return 0, api.ErrPrime
	}
	x = fraction.Plain(x) // p may divide a Den that is not plain
	den := wholeResidue(api.Int{Mag: x.Den}, p)
	if den == 0 {
		return 0, api.ErrZero
	}
	return product(wholeResidue(x.Num, p), inverse(den, p), p), api.OK
}

// wholeResidue returns the residue of a modulo p, which is positive.
func wholeResidue(a api.Int, p int) int {
	_, rest, _ := whole.Div(a, whole.Of(p))
	r, _ := whole.Small(rest)
	return r
}
