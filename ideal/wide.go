package ideal

import (
	"slices"

	"primrose/api"
	"primrose/poly"
)

// wide is what a call does in the wider ring, with the same fuel.
type wide struct {
	*supply
	ring     api.Ring
	variable []api.Term // the additional one
}

// widen returns what the call does in the wider ring, or ErrLong if that does not
// exist.
func (c call) widen() (wide, api.Errno) {
	if len(c.ring.Names) == api.MaxVars {
		return wide{}, api.ErrLong
	}
	name := "t"
	for slices.Contains(c.ring.Names, name) {
		name += "t"
	}
	r := api.Ring{Names: slices.Concat([]string{name}, c.ring.Names), Order: api.Block, First: 1}
	variable := one(r)
	variable[0].E[0] = 1
	return wide{c.supply, r, variable}, api.OK
}

// intersect returns polynomials that generate the intersection of the ideals of f
// and h.
func (w wide) intersect(f, h [][]api.Term) ([][]api.Term, api.Errno) {
	first, e := products(w.ring, widened(f), [][]api.Term{w.variable})
	if e != api.OK {
		return nil, e
	}
	second, e := products(w.ring, widened(h), [][]api.Term{w.oneMinus(w.variable)})
	if e != api.OK {
		return nil, e
	}
	return w.narrowed(slices.Concat(first, second))
}

// saturate returns polynomials that generate the saturation of the ideal of f by p.
func (w wide) saturate(f [][]api.Term, p []api.Term) ([][]api.Term, api.Errno) {
	l, e := products(w.ring, [][]api.Term{w.variable}, widened([][]api.Term{p}))
	if e != api.OK {
		return nil, e
	}
	return w.narrowed(append(widened(f), w.oneMinus(l[0])))
}

// oneMinus returns 1 minus a polynomial of the wider ring.
func (w wide) oneMinus(p []api.Term) []api.Term {
	p, _ = poly.Sub(w.ring, one(w.ring), p)
	return p
}

// narrowed returns those elements of the basis of l that do not contain the
// additional variable, as polynomials without it.
func (w wide) narrowed(l [][]api.Term) ([][]api.Term, api.Errno) {
	l, e := w.elimination(w.ring, l, 1)
	for _, p := range l {
		for k, t := range p {
			p[k].E = t.E[1:]
		}
	}
	return l, e
}

// widened returns polynomials as ones of the wider ring.
func widened(f [][]api.Term) [][]api.Term {
	l := make([][]api.Term, len(f))
	for i, p := range f {
		for _, t := range p {
			l[i] = append(l[i], api.Term{C: t.C, E: slices.Concat([]int{0}, t.E)})
		}
	}
	return l
}
