package several

import (
	"math/bits"

	"primrose/api"
	"primrose/whole"
)

// search looks for the irreducible factors of a primitive polynomial: the image of
// each is a product of factors of the polynomial's image.
type search struct {
	ring  api.Ring
	side  int
	rest  []api.Term
	parts []part // the factors of the image of the rest
}

// newSearch begins a search, and reports whether the image is within the limits.
func newSearch(r api.Ring, p []api.Term) (*search, bool) {
	side := sideOf(p)
	length := lengthOf(side, len(r.Names))
	if length > maxLength {
		return nil, false
	}
	parts, ok := partsOf(imageOf(p, side, length))
	return &search{r, side, p, parts}, ok
}

// irreducibles returns the irreducible factors, each as often as it is one.
func (s *search) irreducibles() [][]api.Term {
	if len(s.parts) == 0 {
		return nil
	}
	var found [][]api.Term
	size := 1
tries:
	for 2*size <= len(s.parts) { // as one of two factors has no more than half of the parts
		for mask := range uint(1) << len(s.parts) {
			if bits.OnesCount(mask) != size || !s.isFirst(mask) {
				continue
			}
			chosen, others := s.partition(mask)
			if factor, quotient, ok := s.try(chosen, others); ok {
				found = append(found, factor)
				s.rest, s.parts = quotient, others
				continue tries // no product of fewer parts has become a factor
			}
		}
		size++
	}
	return append(found, s.rest)
}

// isFirst reports whether the binary digits of mask choose equal parts from the
// first one on. Other choices give the same products.
func (s *search) isFirst(mask uint) bool {
	for i := 1; i < len(s.parts); i++ {
		if s.parts[i].number == s.parts[i-1].number && mask>>(i-1)&3 == 2 {
			return false
		}
	}
	return true
}

// partition returns the parts that the binary digits of mask choose, and the
// others.
func (s *search) partition(mask uint) (chosen, others []part) {
	for i, x := range s.parts {
		if mask>>i&1 == 1 {
			chosen = append(chosen, x)
		} else {
			others = append(others, x)
		}
	}
	return chosen, others
}

// try returns the primitive polynomial whose image is the product of the chosen
// parts, but for its sign, what it leaves of the rest, and true, if it is a factor.
func (s *search) try(chosen, others []part) (factor, quotient []api.Term, ok bool) {
	if !s.fits(chosen, others) {
		return nil, nil, false
	}
	f := []api.Int{whole.Of(1)}
	for _, x := range chosen {
		f = product(f, x.f)
	}
	factor, _, _ = Primitive(s.ring, s.original(f))
	quotient, ok, _ = Divide(s.ring, s.rest, factor)
	return factor, quotient, ok
}

// fits reports whether the greatest exponents of the chosen parts' product and of
// the others' stay below the side when they are added, as those of a factor and of
// its quotient do. Residues show that of most products that are no factors, at a
// small part of the cost.
func (s *search) fits(chosen, others []part) bool {
	a, b := s.exponents(chosen), s.exponents(others)
	for i := range a {
		if a[i]+b[i] >= s.side {
			return false
		}
	}
	return true
}

// exponents returns the greatest exponents of the polynomial whose image is the
// product of the parts, modulo the modulus.
func (s *search) exponents(parts []part) monomial {
	f := []int{1}
	for _, x := range parts {
		f = productOfResidues(f, x.residues)
	}
	var l []term
	for place, c := range f {
		if c != 0 {
			l = append(l, term{e: monomialAt(place, s.side)})
		}
	}
	_, most := bounds(l)
	return most
}

// original returns the polynomial whose image is f.
func (s *search) original(f []api.Int) []api.Term {
	var l []term
	for place, c := range f {
		l = append(l, term{c, monomialAt(place, s.side)})
	}
	return fractions(s.ring, l)
}
