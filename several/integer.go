package several

import (
	"slices"

	"primrose/api"
	"primrose/fraction"
	"primrose/whole"
)

// monomial is a list of exponents as a value, so that it can be a key.
type monomial [api.MaxVars]int

// term is one of a polynomial with integer coefficients. Such polynomials have
// their terms by descending monomials in the order Lex, whatever the ring's order
// is: it doesn't matter to a quotient, and costs much less than to ask the ring.
type term struct {
	c api.Int
	e monomial
}

// integers returns a plain polynomial whose coefficients are integers.
func integers(p []api.Term) []term {
	l := make([]term, len(p))
	for k, t := range p {
		l[k].c = t.C.Num
		copy(l[k].e[:], t.E)
	}
	slices.SortFunc(l, func(s, t term) int { return compareLex(t.e, s.e) })
	return l
}

// fractions returns a polynomial of the ring, which need not be plain.
func fractions(r api.Ring, l []term) []api.Term {
	p := make([]api.Term, len(l))
	for k, t := range l {
		c, _ := fraction.Make(t.c, whole.Of(1))
		p[k] = api.Term{C: c, E: slices.Clone(t.e[:len(r.Names)])}
	}
	return p
}

func compareLex(a, b monomial) int {
	return slices.Compare(a[:], b[:])
}

// bounds returns the least and the greatest exponent of each variable in a
// polynomial that is not 0.
func bounds(p []term) (least, most monomial) {
	least, most = p[0].e, p[0].e
	for _, t := range p {
		for i, n := range t.e {
			least[i], most[i] = min(least[i], n), max(most[i], n)
		}
	}
	return least, most
}

func times(s, t term) term {
	for i, n := range t.e {
		s.e[i] += n
	}
	s.c = whole.Mul(s.c, t.c)
	return s
}

// over returns what s is when it is divided by t, and true, if that has an integer
// coefficient, and exponents from those of least to those of most.
func over(s, t term, least, most monomial) (term, bool) {
	for i, n := range t.e {
		s.e[i] -= n
		if s.e[i] < least[i] || s.e[i] > most[i] {
			return term{}, false
		}
	}
	quotient, left, _ := whole.Div(s.c, t.c)
	s.c = quotient
	return s, whole.Sign(left) == 0
}
