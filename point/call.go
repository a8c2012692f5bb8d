package point

import (
	"slices"

	"primrose/api"
	"primrose/basis"
	"primrose/extend"
	"primrose/poly"
	"primrose/several"
)

// call is a call under way: the rings that it works in, and the fuel that is left.
type call struct {
	rings
	left int
}

// newCall returns a call ahead of its first step, or the error of the arguments.
func newCall(r api.Ring, f [][]api.Term, u []int, fuel int) (*call, api.Errno) {
	for _, p := range slices.Concat([][]api.Term{nil}, f) { // f may be empty
		if _, e := poly.Norm(r, p); e != api.OK {
			return nil, e
		}
	}
	n := len(r.Names)
	switch {
	case fuel < 0 || fuel > api.MaxFuel || !areVariables(u, n) || len(u) == n:
		return nil, api.ErrArg
	case n == api.MaxVars:
		return nil, api.ErrLong
	}
	return &call{ringsOf(r, u), fuel}, api.OK
}

// areVariables reports whether u are indices of n variables, in strictly ascending
// order.
func areVariables(u []int, n int) bool {
	before := -1
	for _, i := range u {
		if i <= before || i >= n {
			return false
		}
		before = i
	}
	return true
}

// start returns the contraction of the ideal of f, or ErrWhole if it is the whole ring.
func (c *call) start(f [][]api.Term) ([][]api.Term, api.Errno) {
	g, e := c.contract(f)
	switch {
	case e != api.OK:
		return nil, e
	case len(g) > 0 && slices.Max(g[0][0].E) == 0:
		return nil, api.ErrWhole
	}
	return g, api.OK
}

// contract returns the contraction of the ideal of f.
func (c *call) contract(f [][]api.Term) (g [][]api.Term, e api.Errno) {
	g, c.left, e = extend.Contract(c.ring, f, c.u, c.left)
	return g, e
}

// least returns the minimal polynomial of a linear form, for the contraction g.
func (c *call) least(g [][]api.Term, form []api.Term) ([]api.Term, api.Errno) {
	equation, _ := poly.Sub(c.middle, c.variable(len(c.others)), form)
	b, left, e := basis.Reduced(c.middle, append(c.toMiddle(g), equation), c.left)
	c.left = left
	if e != api.OK {
		return nil, e
	}
	b = slices.DeleteFunc(b, c.containsOther)
	if len(b) != 1 {
		return nil, api.ErrPoint
	}
	return poly.Monic(c.thin, c.toThin(b[0]))
}

// factors returns the factors of the minimal polynomial of a linear form.
func (c *call) factors(g [][]api.Term, form []api.Term) ([]api.Part, api.Errno) {
	p, e := c.least(g, form)
	if e != api.OK {
		return nil, e
	}
	_, parts, e := several.Factor(c.thin, p)
	return parts, e
}

// radical returns the radical of the contraction g.
func (c *call) radical(g [][]api.Term) ([][]api.Term, api.Errno) {
	l := slices.Clone(g)
	for k := range c.others {
		form := c.variable(k)
		parts, e := c.factors(g, form)
		if e != api.OK {
			return nil, e
		}
		var once [][]api.Term
		for _, part := range parts {
			once = append(once, part.P)
		}
		p, e := c.substitute(once, form)
		if e != api.OK {
			return nil, e
		}
		l = append(l, p)
	}
	return c.contract(l)
}

// substitute returns the product of polynomials of the thin ring with a linear form
// for the new variable. They are factors of a minimal polynomial: so no exponent of
// their product is too great.
func (c *call) substitute(factors [][]api.Term, form []api.Term) ([]api.Term, api.Errno) {
	p := []api.Term{{C: number(1), E: make([]int, len(c.thin.Names))}}
	for _, q := range factors {
		p, _ = poly.Mul(c.thin, p, q)
	}
	p, e := poly.Subst(c.middle, c.fromThin(p), len(c.others), form)
	return c.fromMiddle(p), e
}
