package finite

import (
	"slices"

	"primrose/api"
	"primrose/basis"
	"primrose/extend"
	"primrose/poly"
	"primrose/several"
)

// call is a call under way: the rings that it works in, and the fuel that is left.
type call struct {
	rings
	left int
}

// contract returns the contraction of the ideal of f.
func (c *call) contract(f [][]api.Term) (g [][]api.Term, e api.Errno) {
	g, c.left, e = extend.Contract(c.ring, f, c.u, c.left)
	return g, e
}

// least returns the minimal polynomial of a linear form, for the contraction g.
func (c *call) least(g [][]api.Term, form []api.Term) ([]api.Term, api.Errno) {
	equation, _ := poly.Sub(c.middle, c.variable(len(c.others)), form)
	b, left, e := basis.Reduced(c.middle, append(c.toMiddle(g), equation), c.left)
	c.left = left
	if e != api.OK {
		return nil, e
	}
	b = slices.DeleteFunc(b, c.containsOther)
	if len(b) != 1 {
		return nil, api.ErrPoint
	}
	return poly.Monic(c.thin, c.toThin(b[0]))
}

// factors returns the factors of the minimal polynomial of a linear form.
func (c *call) factors(g [][]api.Term, form []api.Term) ([]api.Part, api.Errno) {
	p, e := c.least(g, form)
	if e != api.OK {
		return nil, e
	}
	_, parts, e := several.Factor(c.thin, p)
	return parts, e
}

// radical returns the radical of the contraction g.
func (c *call) radical(g [][]api.Term) ([][]api.Term, api.Errno) {
	l := slices.Clone(g)
	for k := range c.others {
		form := c.variable(k)
		parts, e := c.factors(g, form)
		if e != api.OK {
			return nil, e
		}
		var once [][]api.Term
		for _, part := range parts {
			once = append(once, part.P)
		}
		p, e := c.substitute(once, form)
		if e != api.OK {
			return nil, e
		}
		l = append(l, p)
	}
	return c.contract(l)
}

// substitute returns the product of polynomials of the thin ring with a linear form
// for the new variable. They are factors of a minimal polynomial: so no exponent of
// their product is too great.
func (c *call) substitute(factors [][]api.Term, form []api.Term) ([]api.Term, api.Errno) {
	p := []api.Term{{C: number(1), E: make([]int, len(c.thin.Names))}}
	for _, q := range factors {
		p, _ = poly.Mul(c.thin, p, q)
	}
	p, e := poly.Subst(c.middle, c.fromThin(p), len(c.others), form)
	return c.fromMiddle(p), e
}
