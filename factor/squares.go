package factor

import (
	"primrose/api"
	"primrose/dense"
	"primrose/lift"
	"primrose/prime"
	"primrose/split"
	"primrose/whole"
)

const (
	maxPrime   = 1 << 16 // the prime is less
	maxPower   = 1000    // of the prime
	maxLimbs   = 500     // of that power: 16 binary digits, 1000 times
	maxFactors = 12      // modulo the prime
)

// squares returns primitive square-free polynomials, no two of which have a common
// factor, such that f, which is primitive, is the product of the first one, the
// second one to the power of 2, and so on.
func squares(f []api.Int) [][]api.Int {
	if isSquareFree(f) {
		return [][]api.Int{f}
	}
	var l [][]api.Int
	for _, square := range dense.Squares(fractions(f)) {
		l = append(l, integers(square))
	}
	return l
}

// isSquareFree tells the most of the square-free polynomials, and no others. It
// takes much less time than common divisors of integers.
//
// What is square-free modulo some prime is so itself. The primes lie above those
// that f's own may be, as a polynomial may be made to suit none of these.
func isSquareFree(f []api.Int) bool {
	p := maxPrime
	for range 3 {
		p = prime.After(p)
		if suits(p, f) {
			return true
		}
	}
	return false
}

// irreducibles returns the irreducible polynomials whose product is f, which is
// primitive and square-free, or false if it is too large.
func irreducibles(f []api.Int) ([][]api.Int, bool) {
	n := len(f) - 1
	if n == 0 {
		return nil, true
	}
	form, sum, ok := monicForm(f)
	if !ok {
		return nil, false
	}
	p := primeOf(f)
	k := exponentOf(p, whole.Mul(power(whole.Of(2), n+1), sum))
	if p == 0 || k == 0 {
		return nil, false
	}
	factors, _ := split.Factor(monicModulo(f, p), p, nil)
	switch {
	case len(factors) > maxFactors:
		return nil, false
	case len(factors) == 1:
		return [][]api.Int{f}, true
	}
	lifted, _ := lift.Lift(form, factors, p, k)
	l := newSearch(form, sum, lifted, p, k).irreducibles()
	for i := range l {
		l[i] = fromMonic(l[i], f[n])
	}
	return l, true
}
