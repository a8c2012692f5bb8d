package reduce

import (
	"primrose/api"
	"primrose/fraction"
	"primrose/mono"
	"primrose/poly"
)

// divisor is a polynomial by which is divided.
type divisor struct {
	ring     api.Ring
	terms    []api.Term // if not 0, from the leading term on, but perhaps not plain
	lead     api.Term   // without a monomial if the divisor is 0, so that it never fits
	integers []api.Term // what whole returns, as soon as it has been asked
}

// newDivisor returns a divisor, or the error of a list of terms for a valid ring.
func newDivisor(r api.Ring, f []api.Term) (divisor, api.Errno) {
	// Of many divisors only a few may ever be used, and most are plain: to look at
	// their order costs far less than to make all of them plain.
	if !isDescending(r, f) {
		var e api.Errno
		if f, e = poly.Norm(r, f); e != api.OK {
			return divisor{}, e
		}
	}
	d := divisor{ring: r, terms: f}
	if len(f) > 0 {
		d.lead = f[0]
	}
	return d, api.OK
}

// isDescending reports whether f is a polynomial whose monomials are strictly
// descending, and whose first term is the leading one.
func isDescending(r api.Ring, f []api.Term) bool {
	if len(f) == 0 || !mono.Right(r, f[0].E) || fraction.Sign(f[0].C) == 0 {
		return false
	}
	for k := range f[1:] {
		if mono.Cmp(r, f[k].E, f[k+1].E) <= 0 { // as it also is if the latter is not right
			return false
		}
	}
	return true
}

// whole returns a multiple of the divisor, plain and with integers as
// coefficients.
func (d *divisor) whole() []api.Term {
	if d.integers == nil {
		d.integers, _ = poly.Norm(d.ring, d.terms)
		clearDenominators(d.integers)
	}
	return d.integers
}

// clearDenominators multiplies a plain polynomial, in its own memory, by the least
// number that makes its coefficients integers. It returns that number.
func clearDenominators(p []api.Term) api.Rat {
	by := fraction.Of(1)
	for _, t := range p {
		// What is left of a denominator is what the ones before it have not.
		left := fraction.Plain(api.Rat{Num: by.Num, Den: t.C.Den}).Den
		by = fraction.Mul(by, integer(api.Int{Mag: left}))
	}
	for k, t := range p {
		p[k].C = fraction.Mul(t.C, by)
	}
	return by
}

// integer returns n as a fraction.
func integer(n api.Int) api.Rat {
	return api.Rat{Num: n, Den: fraction.Of(1).Den}
}
