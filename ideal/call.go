package ideal

import (
	"slices"

	"primrose/api"
	"primrose/poly"
	"primrose/several"
)

// call is a call under way, in the ring that it is for.
type call struct {
	*supply
	ring api.Ring
}

// newCall returns a call ahead of its first step, with f and h in plain form, or the
// error of the arguments.
func newCall(r api.Ring, f, h [][]api.Term, fuel int) (c call, plainF, plainH [][]api.Term, e api.Errno) {
	if plainF, e = plain(r, f); e == api.OK {
		plainH, e = plain(r, h)
	}
	switch {
	case e != api.OK:
		return call{}, nil, nil, e
	case fuel < 0 || fuel > api.MaxFuel:
		return call{}, nil, nil, api.ErrArg
	}
	return call{&supply{fuel}, r}, plainF, plainH, api.OK
}

// plain returns polynomials in plain form.
func plain(r api.Ring, f [][]api.Term) ([][]api.Term, api.Errno) {
	if _, e := poly.Norm(r, nil); e != api.OK { // f may be empty
		return nil, e
	}
	l := make([][]api.Term, len(f))
	for k, p := range f {
		var e api.Errno
		if l[k], e = poly.Norm(r, p); e != api.OK {
			return nil, e
		}
	}
	return l, api.OK
}

// contains reports whether all elements of h are in the ideal of f.
func (c call) contains(f, h [][]api.Term) (bool, api.Errno) {
	g, e := c.basis(c.ring, f)
	if e != api.OK {
		return false, e
	}
	return c.within(c.ring, h, g)
}

// product returns the product of two ideals.
func (c call) product(f, h [][]api.Term) ([][]api.Term, api.Errno) {
	l, e := products(c.ring, f, h)
	if e != api.OK {
		return nil, e
	}
	return c.basis(c.ring, l)
}

// eliminate returns the elimination ideal without the first k variables.
func (c call) eliminate(f [][]api.Term, k int) ([][]api.Term, api.Errno) {
	if k > 0 {
		var e api.Errno
		if f, e = c.elimination(eliminating(c.ring, k), f, k); e != api.OK {
			return nil, e
		}
	}
	return c.basis(c.ring, f)
}

// eliminating returns a ring of the same variables whose Order makes monomials that
// contain one of the first k of them greater than all others.
func eliminating(r api.Ring, k int) api.Ring {
	if k == len(r.Names) {
		return api.Ring{Names: r.Names, Order: api.Grevlex}
	}
	return api.Ring{Names: r.Names, Order: api.Block, First: k}
}

// intersect returns the intersection of two ideals.
func (c call) intersect(f, h [][]api.Term) ([][]api.Term, api.Errno) {
	w, e := c.widen()
	if e != api.OK {
		return nil, e
	}
	g, e := w.intersect(f, h)
	if e != api.OK {
		return nil, e
	}
	return c.basis(c.ring, g)
}

// quotient returns the quotient of two ideals.
func (c call) quotient(f, h [][]api.Term) ([][]api.Term, api.Errno) {
	g := [][]api.Term{one(c.ring)}
	for _, p := range h {
		l, e := c.divide(f, p)
		if e != api.OK {
			return nil, e
		}
		if g, e = c.intersect(g, l); e != api.OK {
			return nil, e
		}
	}
	return g, api.OK
}

// divide returns the quotient of the ideal of f and the one that p generates.
func (c call) divide(f [][]api.Term, p []api.Term) ([][]api.Term, api.Errno) {
	if len(p) == 0 {
		return [][]api.Term{one(c.ring)}, api.OK
	}
	g, e := c.intersect(f, [][]api.Term{p})
	if e != api.OK {
		return nil, e
	}
	for k, m := range g { // each of them is a multiple of p
		g[k], _, _ = several.Divide(c.ring, m, p)
	}
	return c.basis(c.ring, g)
}

// saturation returns the saturation of the ideal of f by p.
func (c call) saturation(f [][]api.Term, p []api.Term) ([][]api.Term, api.Errno) {
	w, e := c.widen()
	if e != api.OK {
		return nil, e
	}
	g, e := w.saturate(f, p)
	if e != api.OK {
		return nil, e
	}
	return c.basis(c.ring, g)
}

// exponent returns how often the ideal of f has to be divided by p until it is the
// saturation.
func (c call) exponent(f [][]api.Term, p []api.Term, saturation [][]api.Term) (int, api.Errno) {
	g, e := c.basis(c.ring, f)
	s := 0
	for ; e == api.OK && !areSame(g, saturation); s++ {
		g, e = c.divide(g, p)
	}
	return s, e
}

// areSame reports whether two lists of plain polynomials are the same.
func areSame(f, h [][]api.Term) bool {
	return slices.EqualFunc(f, h, func(p, q []api.Term) bool { return slices.EqualFunc(p, q, isSame) })
}

func isSame(s, t api.Term) bool {
	return s.C.Num.Neg == t.C.Num.Neg && slices.Equal(s.C.Num.Mag, t.C.Num.Mag) && slices.Equal(s.C.Den, t.C.Den) && slices.Equal(s.E, t.E)
}

// products returns the products of each element of f with each element of h.
func products(r api.Ring, f, h [][]api.Term) ([][]api.Term, api.Errno) {
	var l [][]api.Term
	for _, p := range f {
		for _, q := range h {
			product, e := poly.Mul(r, p, q)
			if e != api.OK {
				return nil, e
			}
			l = append(l, product)
		}
	}
	return l, api.OK
}

// one returns the polynomial 1.
func one(r api.Ring) []api.Term {
	c := api.Rat{Num: api.Int{Mag: []uint32{1}}, Den: []uint32{1}}
	return []api.Term{{C: c, E: make([]int, len(r.Names))}}
}
