// Package finite is what layer 20 does behind its contraction, for layers 20 and 21: see
// shared/doc/20-point.md. Its calls take an ideal as it is, by a basis g in r, which has
// to be its own contraction by u and not the whole ring; the other arguments have to be
// ones that those of layer 20 take, too.
package finite

import "primrose/api"

// Least returns the minimal polynomial of a linear form, in the thin ring, and the
// remaining fuel.
func Least(r api.Ring, g [][]api.Term, u, form []int, fuel int) (p []api.Term, left int, e api.Errno) {
	c := &call{ringsOf(r, u), fuel}
	p, e = c.least(g, c.form(form))
	if e != api.OK {
		return nil, 0, e
	}
	return p, c.left, api.OK
}

// Radical returns the radical of the ideal of g as a basis, and the remaining fuel.
func Radical(r api.Ring, g [][]api.Term, u []int, fuel int) (radical [][]api.Term, left int, e api.Errno) {
	c := &call{ringsOf(r, u), fuel}
	radical, e = c.radical(g)
	if e != api.OK {
		return nil, 0, e
	}
	return radical, c.left, api.OK
}

// Components returns the primary components of the ideal of g, with their primes, and
// the remaining fuel; or ErrLong if no linear form that is tried tells all points apart.
func Components(r api.Ring, g [][]api.Term, u []int, fuel int) (l []api.Component, left int, e api.Errno) {
	c := &call{ringsOf(r, u), fuel}
	l, e = c.components(g)
	if e != api.OK {
		return nil, 0, e
	}
	return l, c.left, api.OK
}
