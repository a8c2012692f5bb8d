package dense

import (
	"primrose/api"
	"primrose/fraction"
)

// DivMod returns q and r with f = q*g + r, where r is 0 or has a smaller degree
// than g, or ErrZero if g is 0 (I3).
func DivMod(f, g []api.Rat) (q, r []api.Rat, e api.Errno) {
	r, g = Plain(f), Plain(g)
	if len(g) == 0 {
		return nil, nil, api.ErrZero
	}
	q = make([]api.Rat, max(len(r)-len(g)+1, 0))
	for i := range len(q) {
		place := len(q) - 1 - i
		q[place], _ = fraction.Div(r[place+len(g)-1], g[len(g)-1])
		addTimes(r[place:], fraction.Neg(q[place]), g)
	}
	return q, trim(r), api.OK
}

// Monic returns f divided by its last coefficient, or 0 for 0 (I4).
func Monic(f []api.Rat) []api.Rat {
	f = Plain(f)
	if len(f) == 0 {
		return nil
	}
	last := f[len(f)-1]
	for i := range len(f) {
		f[i], _ = fraction.Div(f[i], last)
	}
	return f
}

// Gcd returns the monic greatest common divisor, or 0 for 0 and 0 (I4).
func Gcd(f, g []api.Rat) []api.Rat {
	return Monic(common(f, g))
}

// common is Gcd, but for a constant factor: its coefficients are integers without
// a common divisor, as are those of all that Euclid's algorithm meets on the way.
func common(f, g []api.Rat) []api.Rat {
	f, g = primitive(f), primitive(g)
	for len(g) > 0 {
		f, g = g, primitive(rest(f, g))
	}
	return f
}

// primitive returns f, multiplied by a number that makes its coefficients
// integers without a common divisor.
func primitive(f []api.Rat) []api.Rat {
	f = Plain(f)
	if len(f) == 0 {
		return nil
	}
	// If a/b has the denominator d, then the sums of multiples of a and of b are the
	// multiples of b/d: that is the common divisor, of fractions too.
	divisor := f[len(f)-1]
	for i := range len(f) {
		ratio, _ := fraction.Div(f[i], divisor)
		divisor, _ = fraction.Div(divisor, integer(api.Int{Mag: ratio.Den}))
	}
	for i := range len(f) {
		f[i], _ = fraction.Div(f[i], divisor)
	}
	return f
}

// rest returns what f leaves when it is divided by g, multiplied by a number for
// which no fractions arise: those cost a common divisor each. It works in f's
// memory; both are plain, and g isn't 0.
func rest(f, g []api.Rat) []api.Rat {
	last := g[len(g)-1]
	steps := max(len(f)-len(g)+1, 0)
	// The coefficients from place on have been multiplied by factor, those below
	// wait until they are needed.
	factor := fraction.Of(1)
	for i := range steps {
		place := steps - 1 - i
		f[place] = fraction.Mul(f[place], factor)
		first := f[place+len(g)-1]
		if fraction.Sign(first) == 0 {
			continue
		}
		for k := range len(g) {
			f[place+k] = fraction.Sub(fraction.Mul(last, f[place+k]), fraction.Mul(first, g[k]))
		}
		factor = fraction.Mul(factor, last)
	}
	return trim(f)
}
