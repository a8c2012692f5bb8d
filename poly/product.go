package poly

import (
	"cmp"
	"slices"

	"primrose/api"
	"primrose/fraction"
	"primrose/mono"
)

// Mul returns the product, or ErrLong if a term of the plain p times a term of
// the plain q has an exponent greater than MaxExp (G3).
func Mul(r api.Ring, p, q []api.Term) ([]api.Term, api.Errno) {
	if e := check(r, p, q); e != api.OK {
		return nil, e
	}
	p, q = plain(r, p), plain(r, q)
	if _, ok := mono.Mul(bound(r, p), bound(r, q)); !ok {
		return nil, api.ErrLong
	}
	return product(r, p, q), api.OK
}

// Subst returns p with by substituted for the variable i, or ErrLong if an
// exponent becomes greater than MaxExp on the way (G8).
func Subst(r api.Ring, p []api.Term, i int, by []api.Term) ([]api.Term, api.Errno) {
	if e := checkIn(r, i, p, by); e != api.OK {
		return nil, e
	}
	p, by = plain(r, p), plain(r, by)
	if !fits(p, i, bound(r, by)) {
		return nil, api.ErrLong
	}
	// Each power of by is made of the one before.
	slices.SortStableFunc(p, func(s, t api.Term) int { return cmp.Compare(s.E[i], t.E[i]) })
	power, reached := one(r), 0
	return total(r, p, func(t api.Term) []api.Term {
		if n := t.E[i]; n > reached {
			power = product(r, power, raised(r, by, n-reached))
			reached = n
		}
		return times(power, without(t, i))
	}), api.OK
}

// fits tells whether each term of p stays within MaxExp when the variable i is
// replaced by a polynomial whose greatest exponents are those of b. They add up:
// of a product the terms with the greatest exponent of a variable never cancel.
func fits(p []api.Term, i int, b []int) bool {
	for _, t := range p {
		for k, n := range without(t, i).E {
			if n+t.E[i]*b[k] > api.MaxExp {
				return false
			}
		}
	}
	return true
}

// total returns the sum of what each term of p becomes, in their order. Halves
// are summed first: a sum that grew term by term would be sorted for each.
func total(r api.Ring, p []api.Term, become func(t api.Term) []api.Term) []api.Term {
	switch len(p) {
	case 0:
		return nil
	case 1:
		return become(p[0])
	}
	first := total(r, p[:len(p)/2], become)
	second := total(r, p[len(p)/2:], become)
	return gather(r, append(first, second...))
}

// product is Mul of plain polynomials whose exponents fit.
func product(r api.Ring, p, q []api.Term) []api.Term {
	if len(p) > len(q) { // a few long lists in order are sorted faster
		p, q = q, p
	}
	return total(r, p, func(t api.Term) []api.Term { return times(q, t) })
}

// times multiplies a plain polynomial by a term: that keeps the order.
func times(p []api.Term, t api.Term) []api.Term {
	l := make([]api.Term, len(p))
	for k, s := range p {
		e, _ := mono.Mul(s.E, t.E)
		l[k] = api.Term{C: fraction.Mul(s.C, t.C), E: e}
	}
	return l
}

// raised returns p to the power of n. Only a single term is squared: of a sum in
// several variables two halves of the power cost more than many small products.
func raised(r api.Ring, p []api.Term, n int) []api.Term {
	if n == 0 {
		return one(r)
	}
	if n%2 == 1 || len(p) > 1 {
		return product(r, raised(r, p, n-1), p)
	}
	half := raised(r, p, n/2)
	return product(r, half, half)
}

func one(r api.Ring) []api.Term {
	return []api.Term{{C: fraction.Of(1), E: make([]int, len(r.Names))}}
}

// without returns t without the variable i.
func without(t api.Term, i int) api.Term {
	t.E = slices.Clone(t.E)
	t.E[i] = 0
	return t
}
