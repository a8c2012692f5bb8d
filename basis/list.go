package basis

import (
	"slices"

	"primrose/api"
	"primrose/mono"
	"primrose/poly"
	"primrose/reduce"
)

// list is polynomials that become a basis, or may be one, and the fuel for it.
type list struct {
	ring     api.Ring
	elements [][]api.Term // plain and monic, and so none of them 0
	divisors [][]api.Term // what useful has found among the first ones
	seen     int          // how many these are
	fuel     int
}

// newList returns the elements of f that are not 0, or the error of the arguments.
func newList(r api.Ring, f [][]api.Term, fuel int) (*list, api.Errno) {
	if e := mono.Check(r); e != api.OK { // f may be empty
		return nil, e
	}
	l := &list{ring: r, fuel: fuel}
	for _, p := range f {
		// Is does not ask for monic elements, but takes the same steps with them.
		p, e := poly.Monic(r, p)
		if e != api.OK {
			return nil, e
		}
		if len(p) > 0 {
			l.elements = append(l.elements, p)
		}
	}
	if fuel < 0 || fuel > api.MaxFuel {
		return nil, api.ErrArg
	}
	return l, api.OK
}

// complete processes the pairs that next returns, as long as there is one, and
// appends what is missing from a basis.
func (l *list) complete(next func() (pair, bool)) api.Errno {
	for p, ok := next(); ok; p, ok = next() {
		if e := l.step(); e != api.OK {
			return e
		}
		if l.areCoprime(p) {
			continue
		}
		rest, e := l.remainder(p)
		if e != api.OK {
			return e
		}
		if len(rest) > 0 {
			rest, _ = poly.Monic(l.ring, rest)
			l.elements = append(l.elements, rest)
		}
	}
	return api.OK
}

// isComplete reports whether nothing remains of the pairs that next returns.
func (l *list) isComplete(next func() (pair, bool)) (bool, api.Errno) {
	for p, ok := next(); ok; p, ok = next() {
		if e := l.step(); e != api.OK {
			return false, e
		}
		rest, e := l.remainder(p)
		if e != api.OK || len(rest) > 0 {
			return false, e
		}
	}
	return true, api.OK
}

// step takes one of the fuel.
func (l *list) step() api.Errno {
	if l.fuel == 0 {
		return api.ErrFuel
	}
	l.fuel--
	return api.OK
}

// remainder returns what remains of the S-polynomial of a pair.
func (l *list) remainder(p pair) ([]api.Term, api.Errno) {
	s, e := reduce.Spoly(l.ring, l.elements[p.i], l.elements[p.k])
	if e != api.OK || len(s) == 0 { // 0 is left as it is, whatever it is divided by
		return nil, e
	}
	s, l.fuel, e = reduce.Rem(l.ring, s, l.useful(), l.fuel)
	return s, e
}

// useful returns the elements that may be the first one that fits. The others need
// not be looked at in each division: an earlier leading monomial divides theirs.
func (l *list) useful() [][]api.Term {
	for ; l.seen < len(l.elements); l.seen++ {
		e := l.lead(l.seen)
		isDivisor := func(f []api.Term) bool { return divides(f[0].E, e) }
		if !slices.ContainsFunc(l.divisors, isDivisor) {
			l.divisors = append(l.divisors, l.elements[l.seen])
		}
	}
	return l.divisors
}

// removeRedundant removes the elements whose leading monomials are divisible by
// others. The first of several equal ones stays.
func (l *list) removeRedundant() {
	var kept [][]api.Term
	for k, f := range l.elements {
		if !l.isRedundant(k) {
			kept = append(kept, f)
		}
	}
	l.elements = kept
}

func (l *list) isRedundant(k int) bool {
	for i := range l.elements {
		if i != k && divides(l.lead(i), l.lead(k)) && (i < k || !slices.Equal(l.lead(i), l.lead(k))) {
			return true
		}
	}
	return false
}

// divideEach replaces each element by its remainder when divided by the other ones,
// of which the earlier ones are remainders already.
func (l *list) divideEach() api.Errno {
	for k, f := range l.elements {
		others := slices.Delete(slices.Clone(l.elements), k, k+1)
		var e api.Errno
		if l.elements[k], l.fuel, e = reduce.Rem(l.ring, f, others, l.fuel); e != api.OK {
			return e
		}
	}
	return api.OK
}

// sort sorts the elements by their leading monomials, all of which are different.
func (l *list) sort() {
	slices.SortFunc(l.elements, func(f, h []api.Term) int { return mono.Cmp(l.ring, f[0].E, h[0].E) })
}

// lead returns the leading monomial of the element k.
func (l *list) lead(k int) []int {
	return l.elements[k][0].E
}

// areCoprime reports whether the leading monomials of a pair have no variable in
// common.
func (l *list) areCoprime(p pair) bool {
	common, _ := mono.Gcd(l.lead(p.i), l.lead(p.k))
	return mono.Degree(common) == 0
}

// divides reports whether the monomial a divides b.
func divides(a, b []int) bool {
	_, ok := mono.Div(b, a)
	return ok
}
