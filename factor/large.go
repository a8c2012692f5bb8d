package factor

import (
	"primrose/api"
	"primrose/lift"
	"primrose/modular"
	"primrose/prime"
	"primrose/split"
	"primrose/whole"
)

// What f may not exceed if it is not too large.
const (
	maxPrime   = 1 << 16 // the prime is less
	maxPower   = 1000    // of the prime
	maxLimbs   = 500     // of that power: 16 binary digits, 1000 times
	maxFactors = 12      // modulo the prime
)

// irreducibles returns the irreducible polynomials whose product is f, which is
// primitive and square-free, or false if it is too large.
func irreducibles(f []api.Int) ([][]api.Int, bool) {
	n := len(f) - 1
	if n == 0 {
		return nil, true
	}
	form, sum, ok := monicForm(f)
	if !ok {
		return nil, false
	}
	p := primeOf(f)
	k := exponentOf(p, whole.Mul(power(whole.Of(2), n+1), sum))
	if p == 0 || k == 0 {
		return nil, false
	}
	factors, _ := split.Factor(monicModulo(f, p), p, nil)
	switch {
	case len(factors) > maxFactors:
		return nil, false
	case len(factors) == 1:
		return [][]api.Int{f}, true
	}
	lifted, _ := lift.Lift(form, factors, p, k)
	l := newSearch(form, sum, lifted, p, k).irreducibles()
	for i := range l {
		l[i] = fromMonic(l[i], f[n])
	}
	return l, true
}

// primeOf returns the prime of f, or 0 if there is none below 2^16.
func primeOf(f []api.Int) int {
	for p := 2; p < maxPrime; p = prime.After(p) {
		if suits(p, f) {
			return p
		}
	}
	return 0
}

// suits reports whether the monic form of f has no common factor with its
// derivative modulo p.
func suits(p int, f []api.Int) bool {
	form := monicModulo(f, p)
	return len(modular.Gcd(form, modular.Deriv(form, p), p)) == 1
}

// exponentOf returns the least k, from 1 on, for which p^k is greater than the
// bound, or 0 if it would be greater than 1000.
func exponentOf(p int, bound api.Int) int {
	q := whole.Of(1)
	for k := 1; k <= maxPower; k++ {
		q = whole.Mul(q, whole.Of(p))
		if whole.Cmp(q, bound) > 0 {
			return k
		}
	}
	return 0
}
