package finite

import (
	"slices"

	"primrose/api"
	"primrose/extend"
	"primrose/poly"
)

// attempts is how many linear forms are tried.
const attempts = 50

// components returns the components of the contraction g, from the first linear form
// that tells its points apart.
func (c *call) components(g [][]api.Term) ([]api.Component, api.Errno) {
tries:
	for k := range attempts {
		form := c.form(powers(k, len(c.others)))
		parts, e := c.factors(g, form)
		if e != api.OK {
			return nil, e
		}
		var l []api.Component
		for _, part := range parts {
			x, isPrime, e := c.component(g, form, part)
			switch {
			case e != api.OK:
				return nil, e
			case !isPrime:
				continue tries
			}
			l = append(l, x)
		}
		return l, api.OK
	}
	return nil, api.ErrLong
}

// component returns what a factor of the minimal polynomial of a linear form gives,
// and whether the radical has the degree of the factor: for only then it is prime.
func (c *call) component(g [][]api.Term, form []api.Term, part api.Part) (x api.Component, isPrime bool, e api.Errno) {
	p, e := c.substitute(slices.Repeat([][]api.Term{part.P}, part.N), form)
	if e == api.OK {
		x.Q, e = c.contract(slices.Concat(g, [][]api.Term{p}))
	}
	if e == api.OK {
		x.P, e = c.radical(x.Q)
	}
	var degree int
	if e == api.OK {
		degree, c.left, e = extend.Degree(c.ring, x.P, c.u, c.left)
	}
	if e != api.OK {
		return api.Component{}, false, e
	}
	most, _ := poly.Degree(c.thin, part.P, 0)
	return x, degree == most, api.OK
}

// powers returns the first n powers of k.
func powers(k, n int) []int {
	l := []int{1}
	for len(l) < n {
		l = append(l, l[len(l)-1]*k)
	}
	return l
}
