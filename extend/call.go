package extend

import (
	"slices"

	"primrose/api"
	"primrose/basis"
	"primrose/ideal"
	"primrose/poly"
	"primrose/stair"
)

// call is a call under way: the ring that it is for, and the fuel that is left.
type call struct {
	ring api.Ring
	left int
}

// newCall returns a call ahead of its first step, or the error of the arguments. Fuel
// that may not be is left to the first basis, whose error is that of u, too.
func newCall(r api.Ring, f [][]api.Term, u []int, fuel int) (*call, api.Errno) {
	for _, p := range slices.Concat([][]api.Term{nil}, f) { // f may be empty
		if _, e := poly.Norm(r, p); e != api.OK {
			return nil, e
		}
	}
	if !areVariables(u, len(r.Names)) {
		return nil, api.ErrArg
	}
	return &call{r, fuel}, api.OK
}

// areVariables reports whether u are indices of n variables, in strictly ascending
// order.
func areVariables(u []int, n int) bool {
	before := -1
	for _, i := range u {
		if i <= before || i >= n {
			return false
		}
		before = i
	}
	return true
}

// basis returns the reduced basis of the ideal that f generates in a ring.
func (c *call) basis(r api.Ring, f [][]api.Term) (g [][]api.Term, e api.Errno) {
	g, c.left, e = basis.Reduced(r, f, c.left)
	return g, e
}

// contract returns the contraction of the ideal of f by u, and the polynomial by which
// it is saturated for that.
func (c *call) contract(f [][]api.Term, u []int) (g [][]api.Term, h []api.Term, e api.Errno) {
	o := reorder(c.ring, u)
	b, e := c.basis(o.ring, o.reordered(f))
	if e == api.OK {
		h, e = o.product(b)
	}
	if e == api.OK {
		g, e = c.saturate(f, h)
	}
	return g, h, e
}

// saturate returns the saturation of the ideal of f by h.
func (c *call) saturate(f [][]api.Term, h []api.Term) (g [][]api.Term, e api.Errno) {
	w, ok := wider(c.ring)
	if !ok {
		return nil, api.ErrLong
	}
	inverse, _ := poly.Sub(w, one(w), widened(h, 1))
	// This also takes the last basis: in w, with the same steps as in the ring itself.
	g, c.left, e = ideal.Eliminate(w, append(eachWidened(f), inverse), 1, c.left)
	return eachNarrowed(g), e
}

// independent returns the maximal independent set of a basis, or ErrWhole.
func (c *call) independent(b [][]api.Term) ([]int, api.Errno) {
	u, _, e := stair.Independent(c.ring, leads(b, len(c.ring.Names)), api.MaxFuel)
	return u, e
}

// exponent returns how often the ideal of b has to be divided by h until its basis,
// which b is, is the saturation.
func (c *call) exponent(b [][]api.Term, h []api.Term, saturation [][]api.Term) (s int, e api.Errno) {
	for ; e == api.OK && !slices.EqualFunc(b, saturation, areSame); s++ {
		b, e = c.divide(b, h)
	}
	return s, e
}

// divide returns the quotient of the ideal of f and the one that h generates.
func (c *call) divide(f [][]api.Term, h []api.Term) (g [][]api.Term, e api.Errno) {
	g, c.left, e = ideal.Meet(c.ring, f, [][]api.Term{h}, c.left)
	if e != api.OK {
		return nil, e
	}
	for k, p := range g { // each of them is a multiple of h
		g[k] = over(c.ring, p, h)
	}
	return c.basis(c.ring, g)
}

// degree returns how many monomials in the other variables are below the basis of f in
// the reordered ring.
func (c *call) degree(f [][]api.Term, u []int) (int, api.Errno) {
	o := reorder(c.ring, u)
	b, e := c.basis(o.ring, o.reordered(f))
	switch {
	case e != api.OK:
		return 0, e
	case o.others == 0 && len(b) == 0: // 1 is the only monomial, but there is no ring for it
		return 1, api.OK
	case o.others == 0:
		return 0, api.OK
	}
	others := api.Ring{Names: o.ring.Names[:o.others]}
	below, _, e := stair.Below(others, leads(b, o.others), api.MaxFuel)
	return len(below), e
}

// leads returns the leading monomials of a basis in the first n variables. To find the
// basis of these takes one step for each pair, as was taken for that of b: so MaxFuel
// is enough for it, while it may not be for b once more.
func leads(b [][]api.Term, n int) [][]api.Term {
	l := make([][]api.Term, len(b))
	for k, p := range b {
		l[k] = []api.Term{{C: p[0].C, E: p[0].E[:n]}}
	}
	return l
}
