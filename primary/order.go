package primary

import (
	"cmp"
	"slices"

	"primrose/api"
	"primrose/several"
)

// compareAll orders bases by their numbers of polynomials, and then by the first
// polynomials that differ.
func compareAll(r api.Ring, f, g [][]api.Term) int {
	if len(f) != len(g) {
		return cmp.Compare(len(f), len(g))
	}
	for k, p := range f {
		if order := compare(r, p, g[k]); order != 0 {
			return order
		}
	}
	return 0
}

// compare compares plain polynomials in the order of layer 14: by their numbers of
// terms, and then by the first terms that differ, of which the leading term of the
// difference tells.
func compare(r api.Ring, p, q []api.Term) int {
	if len(p) != len(q) {
		return cmp.Compare(len(p), len(q))
	}
	difference, by, e := several.Primitive(r, slices.Concat(p, negative(q)))
	if e == api.ErrZero {
		return 0
	}
	has := func(t api.Term) bool { return slices.Equal(t.E, difference[0].E) }
	inP, inQ := slices.ContainsFunc(p, has), slices.ContainsFunc(q, has)
	switch {
	case inP && !inQ: // instead of a lesser monomial in q
		return 1
	case inQ && !inP:
		return -1
	case by.Num.Neg:
		return -1
	}
	return 1
}

// negative returns minus a polynomial, whose 0 need not be plain.
func negative(p []api.Term) []api.Term {
	l := slices.Clone(p)
	for k := range l {
		l[k].C.Num.Neg = !l[k].C.Num.Neg
	}
	return l
}
