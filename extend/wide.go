package extend

import (
	"slices"

	"primrose/api"
)

// wider returns the ring with one more variable before those of r, and true, if there
// may be so many. It orders the polynomials without that variable as r does; to
// eliminate the variable is to take a basis in the wider ring of layer 17.
func wider(r api.Ring) (api.Ring, bool) {
	if len(r.Names) == api.MaxVars {
		return api.Ring{}, false
	}
	name := "t"
	for slices.Contains(r.Names, name) {
		name += "t"
	}
	w := api.Ring{Names: slices.Concat([]string{name}, r.Names), Order: r.Order}
	if r.Order == api.Block {
		w.First = r.First + 1
	}
	return w, true
}

// widened returns a polynomial times the additional variable to the power of n.
func widened(p []api.Term, n int) []api.Term {
	var l []api.Term
	for _, t := range p {
		l = append(l, api.Term{C: t.C, E: slices.Concat([]int{n}, t.E)})
	}
	return l
}

// eachWidened returns polynomials as ones of the wider ring.
func eachWidened(f [][]api.Term) [][]api.Term {
	l := make([][]api.Term, len(f))
	for k, p := range f {
		l[k] = widened(p, 0)
	}
	return l
}

// eachNarrowed makes polynomials without the additional variable, in their own memory,
// ones of the ring without it.
func eachNarrowed(l [][]api.Term) [][]api.Term {
	for _, p := range l {
		for k, t := range p {
			p[k].E = t.E[1:]
		}
	}
	return l
}
