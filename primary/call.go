package primary

import (
	"slices"

	"primrose/api"
	"primrose/basis"
	"primrose/extend"
	"primrose/finite"
	"primrose/ideal"
	"primrose/stair"
	"primrose/within"
)

// call is a call under way: the ring that it is for, and the fuel that is left.
type call struct {
	ring api.Ring
	left int
}

// newCall returns a call ahead of its first step, or the error of the arguments.
func newCall(r api.Ring, f [][]api.Term, fuel int) (*call, api.Errno) {
	// Without fuel no more is done than to check the ring and the polynomials.
	if _, _, e := basis.Reduced(r, f, 0); e != api.OK && e != api.ErrFuel {
		return nil, e
	}
	switch {
	case fuel < 0 || fuel > api.MaxFuel:
		return nil, api.ErrArg
	case len(r.Names) == api.MaxVars:
		return nil, api.ErrLong
	}
	return &call{r, fuel}, api.OK
}

// answer returns what a call works out from f and the remaining fuel, or its error.
func answer[T any](r api.Ring, f [][]api.Term, fuel int, work func(*call, [][]api.Term) (T, api.Errno)) (result T, left int, e api.Errno) {
	var none T
	c, e := newCall(r, f, fuel)
	if e != api.OK {
		return none, 0, e
	}
	result, e = work(c, f)
	if e != api.OK {
		return none, 0, e
	}
	return result, c.left, api.OK
}

// half is the half of an ideal that is its contraction by u. The other half is the
// ideal together with h to the power of s.
type half struct {
	u []int
	h []api.Term
	g [][]api.Term
	s int
}

// halve returns a half of the ideal of f, and true; or false if f generates the whole
// ring, for which a basis has been taken then.
func (c *call) halve(f [][]api.Term) (x half, ok bool, e api.Errno) {
	var left int
	x.u, x.h, x.g, x.s, left, e = extend.Halve(c.ring, f, c.left)
	if e == api.ErrWhole {
		_, c.left, e = basis.Reduced(c.ring, f, c.left)
		return half{}, false, e
	}
	c.left = left
	return x, true, e
}

// components returns the components of a half.
func (c *call) components(x half) (l []api.Component, e api.Errno) {
	if len(x.u) == len(c.ring.Names) {
		return []api.Component{{Q: x.g, P: slices.Clone(x.g)}}, api.OK
	}
	l, c.left, e = finite.Components(c.ring, x.g, x.u, c.left)
	return l, e
}

// power returns h to the power of s.
func (c *call) power(h []api.Term, s int) ([]api.Term, api.Errno) {
	p := c.whole()
	for range s {
		// The leading coefficients are 1: so a product is the basis of its ideal, for
		// which no steps are taken.
		var e api.Errno
		if p, _, e = ideal.Product(c.ring, p, [][]api.Term{h}, 0); e != api.OK {
			return nil, e
		}
	}
	return p[0], api.OK
}

// meet returns the intersection of two ideals.
func (c *call) meet(f, h [][]api.Term) (g [][]api.Term, e api.Errno) {
	g, c.left, e = ideal.Meet(c.ring, f, h, c.left)
	return g, e
}

// meetAll returns the intersection of ideals, beginning with the whole ring.
func (c *call) meetAll(l [][][]api.Term) ([][]api.Term, api.Errno) {
	g := c.whole()
	for _, f := range l {
		var e api.Errno
		if g, e = c.meet(g, f); e != api.OK {
			return nil, e
		}
	}
	return g, api.OK
}

// isWithin reports whether all polynomials of f are in the ideal of the basis g.
func (c *call) isWithin(f, g [][]api.Term) (is bool, e api.Errno) {
	is, c.left, e = within.Basis(c.ring, f, g, c.left)
	return is, e
}

// dimension returns the dimension of the ideal of the basis g, which takes no steps.
func (c *call) dimension(g [][]api.Term) int {
	// To find the basis of the leading monomials takes one step for each pair, as was
	// taken for that of g: so MaxFuel is enough for it.
	leads := make([][]api.Term, len(g))
	for k, p := range g {
		leads[k] = p[:1]
	}
	dim, _, _ := stair.Dim(c.ring, leads, api.MaxFuel)
	return dim
}

// whole returns the basis of the whole ring.
func (c *call) whole() [][]api.Term {
	one := api.Rat{Num: api.Int{Mag: []uint32{1}}, Den: []uint32{1}}
	return [][]api.Term{{{C: one, E: make([]int, len(c.ring.Names))}}}
}
