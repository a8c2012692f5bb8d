package several_test

import (
	"math/big"

	"primrose/api"
)

// sample makes a polynomial of which nothing is known but that it isn't 0: at most
// so many terms in n variables, with exponents below high.
func (s *noise) sample(n, terms, high, size int) sum {
	for {
		p := sum{}
		for range terms {
			var k key
			for i := range n {
				k[i] = s.below(high)
			}
			p.add(k, rat(int64(s.size(size)), 1))
		}
		if len(p) > 0 {
			return p
		}
	}
}

// without takes a variable out of a polynomial.
func without(p sum, i int) sum {
	all := sum{}
	for k, c := range p {
		k[i] = 0
		all.add(k, c)
	}
	return all
}

// linear makes an irreducible polynomial: of degree 1 in one variable, with a
// constant before it.
func (s *noise) linear(n, high int) sum {
	i := s.below(n)
	p := without(s.sample(n, 3, high, 4), i)
	return plus(p, scaled(power(i, 1), rat(int64(1+s.below(3)), 1)))
}

// eisenstein makes an irreducible polynomial: in one variable, a prime divides all
// coefficients but the first one, and the last one only once.
func (s *noise) eisenstein(n, high int) sum {
	i, prime := s.below(n), []int64{2, 3, 5, 7}[s.below(4)]
	degree := 1 + s.below(high)
	p := sum{}
	for m := range degree {
		p = plus(p, times(power(i, m), without(s.sample(n, 2, high, 3), i)))
	}
	p = scaled(p, rat(prime*prime, 1))
	p.add(key{}, rat(prime, 1))
	return plus(p, power(i, degree))
}

// bilinear is a + b*x + c*y + d*x*y.
func bilinear(a, b, c, d int) sum {
	p := sum{}
	for place, n := range []int{a, b, c, d} {
		p.add(key{place % 2, place / 2}, rat(int64(n), 1))
	}
	return p
}

// allBilinear are those with coefficients from -size to size, but for 0.
func allBilinear(size int) []sum {
	var all []sum
	n := 2*size + 1
	for code := range n * n * n * n {
		p := bilinear(code%n-size, code/n%n-size, code/n/n%n-size, code/n/n/n-size)
		if len(p) > 0 {
			all = append(all, p)
		}
	}
	return all
}

// fractions are of both signs, small and great.
func fractions(s *noise) []*big.Rat {
	all := []*big.Rat{rat(1, 1), rat(-1, 1), rat(6, 1), rat(-6, 1), rat(2, 3), rat(-3, 2), rat(-1, 1<<40), rat(1<<62, 3)}
	for n := range 12 {
		all = append(all, s.fraction(1+20*n))
	}
	return all
}

// aRing is one of n variables.
func (s *noise) aRing(n int) api.Ring {
	all := rings(n)
	return all[s.below(len(all))]
}
