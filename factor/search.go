package factor

import (
	"math/bits"

	"primrose/api"
	"primrose/lift"
	"primrose/whole"
)

// search looks for the factors of a monic square-free polynomial among the
// products of its factors modulo a power of a prime. The power is so great that of
// a factor, the coefficients and the value at 1 are the residues nearest to 0.
type search struct {
	p, k  int
	power api.Int // p^k
	sum   api.Int // of the absolute values of the polynomial's coefficients
	rest  []api.Int
	parts []part // of the rest
}

// part is a factor modulo the power, and its value at 1.
type part struct {
	f     []api.Int
	value api.Int
}

func newSearch(f []api.Int, sum api.Int, lifted [][]api.Int, p, k int) *search {
	s := &search{p: p, k: k, power: power(whole.Of(p), k), sum: sum, rest: f}
	for _, g := range lifted {
		s.parts = append(s.parts, part{g, nearest(value(g, whole.Of(1)), s.power)})
	}
	return s
}

// irreducibles returns the irreducible factors.
func (s *search) irreducibles() [][]api.Int {
	var found [][]api.Int
	size := 1
tries:
	for 2*size <= len(s.parts) { // as one of two factors has no more than half of the parts
		for mask := range uint(1) << len(s.parts) {
			if bits.OnesCount(mask) != size {
				continue
			}
			chosen, others := s.partition(mask)
			if factor, quotient, ok := s.try(chosen); ok {
				found = append(found, factor)
				s.rest, s.parts = quotient, others
				continue tries // no product of fewer parts has become a factor
			}
		}
		size++
	}
	return append(found, s.rest)
}

// partition returns the parts that the binary digits of mask choose, and the
// others.
func (s *search) partition(mask uint) (chosen, others []part) {
	for i, x := range s.parts {
		if mask>>i&1 == 1 {
			chosen = append(chosen, x)
		} else {
			others = append(others, x)
		}
	}
	return chosen, others
}

// try returns the product of the chosen parts, what it leaves of the rest, and
// true, if it is a factor. Two numbers that are soon known spare most products.
func (s *search) try(chosen []part) (factor, quotient []api.Int, ok bool) {
	if !s.rootsFit(chosen) || !s.valueFits(chosen) {
		return nil, nil, false
	}
	factor = []api.Int{whole.Of(1)}
	for _, x := range chosen {
		factor, _ = lift.Near(product(factor, x.f), s.p, s.k)
	}
	quotient, ok = Divides(s.rest, factor)
	return factor, quotient, ok
}

// rootsFit reports whether the sum of the roots is not too great. It is the
// coefficient below the last one, but for its sign; and no root of a monic
// polynomial is greater than the sum of its coefficients' absolute values.
func (s *search) rootsFit(chosen []part) bool {
	degree, sum := 0, whole.Of(0)
	for _, x := range chosen {
		degree += len(x.f) - 1
		sum = whole.Add(sum, x.f[len(x.f)-2])
	}
	return whole.Cmp(absolute(nearest(sum, s.power)), whole.Mul(whole.Of(degree), s.sum)) <= 0
}

// valueFits reports whether the value at 1 divides that of the rest.
func (s *search) valueFits(chosen []part) bool {
	product := whole.Of(1)
	for _, x := range chosen {
		product = nearest(whole.Mul(product, x.value), s.power)
	}
	return divides(product, value(s.rest, whole.Of(1)))
}
