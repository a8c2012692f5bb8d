package several

import (
	"cmp"
	"slices"

	"primrose/api"
	"primrose/fraction"
	"primrose/mono"
)

// inOrder puts factors into order, with equal ones as one part.
func inOrder(r api.Ring, factors [][]api.Term) []api.Part {
	slices.SortFunc(factors, func(p, q []api.Term) int { return compare(r, p, q) })
	var l []api.Part
	for _, p := range factors {
		last := len(l) - 1
		if last >= 0 && compare(r, l[last].P, p) == 0 {
			l[last].N++
		} else {
			l = append(l, api.Part{P: p, N: 1})
		}
	}
	return l
}

// compare orders plain polynomials by their numbers of terms, then term by term by
// the monomials and, where these are equal, by the coefficients.
func compare(r api.Ring, p, q []api.Term) int {
	if len(p) != len(q) {
		return cmp.Compare(len(p), len(q))
	}
	for k, t := range p {
		if c := mono.Cmp(r, t.E, q[k].E); c != 0 {
			return c
		}
		if c := fraction.Cmp(t.C, q[k].C); c != 0 {
			return c
		}
	}
	return 0
}
