package extend

import (
	"slices"

	"primrose/api"
	"primrose/poly"
)

// places is the index, in one ring, of the variable at each place of another one.
type places [api.MaxVars]int

// placesOf returns the indices of n variables, those of u behind the others.
func placesOf(n int, u []int) places {
	var p places
	others := 0
	for i := range n {
		if !slices.Contains(u, i) {
			p[others] = i
			others++
		}
	}
	copy(p[others:], u)
	return p
}

// inverse returns the places of n variables the other way round.
func (p places) inverse(n int) places {
	var q places
	for k, i := range p[:n] {
		q[i] = k
	}
	return q
}

// of returns a monomial of the one ring as one of the other.
func (p places) of(e []int) []int {
	l := make([]int, len(e))
	for k := range e {
		l[k] = e[p[k]]
	}
	return l
}

// reordering is a ring, and its reordered ring.
type reordering struct {
	from, ring api.Ring
	places     places
	others     int // how many other variables there are, which are the first ones
}

// reorder returns the reordered ring, with the variables of u behind the others.
func reorder(r api.Ring, u []int) reordering {
	n := len(r.Names)
	o := reordering{from: r, places: placesOf(n, u), others: n - len(u)}
	for _, i := range o.places[:n] {
		o.ring.Names = append(o.ring.Names, r.Names[i])
	}
	o.ring.Order = api.Grevlex
	if 0 < o.others && o.others < n {
		o.ring.Order, o.ring.First = api.Block, o.others
	}
	return o
}

// reordered returns polynomials as ones of the reordered ring.
func (o reordering) reordered(f [][]api.Term) [][]api.Term {
	l := make([][]api.Term, len(f))
	for k, p := range f {
		for _, t := range p {
			l[k] = append(l[k], api.Term{C: t.C, E: o.places.of(t.E)})
		}
	}
	return l
}

// product returns the product of the leading coefficients over u of a basis in the
// reordered ring, of each that is not 1 once.
func (o reordering) product(b [][]api.Term) (h []api.Term, e api.Errno) {
	h = one(o.from)
	known := [][]api.Term{h}
	for _, p := range b {
		q, _ := poly.Monic(o.from, o.coefficient(p))
		if slices.ContainsFunc(known, func(l []api.Term) bool { return areSame(l, q) }) {
			continue
		}
		known = append(known, q)
		if h, e = poly.Mul(o.from, h, q); e != api.OK {
			return nil, e
		}
	}
	return h, api.OK
}

// coefficient returns the leading coefficient over u of a plain polynomial of the
// reordered ring.
func (o reordering) coefficient(p []api.Term) []api.Term {
	back := o.places.inverse(len(o.from.Names))
	var l []api.Term
	for _, t := range p {
		if !slices.Equal(t.E[:o.others], p[0].E[:o.others]) { // these are in descending order
			break
		}
		e := slices.Concat(make([]int, o.others), t.E[o.others:])
		l = append(l, api.Term{C: t.C, E: back.of(e)})
	}
	return l
}
