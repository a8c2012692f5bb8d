package primary

import (
	"slices"

	"primrose/api"
)

// decompose returns the components of the ideal of f, in order.
func (c *call) decompose(f [][]api.Term) ([]api.Component, api.Errno) {
	l, e := c.find(f)
	if e != api.OK {
		return nil, e
	}
	return c.settle(l)
}

// settle makes components that are found those that are returned: each prime once, none
// of them redundant, and in order.
func (c *call) settle(found []api.Component) ([]api.Component, api.Errno) {
	var l []api.Component
	var e api.Errno
	for _, x := range found {
		if l, e = c.merge(l, x); e != api.OK {
			return nil, e
		}
	}
	if l, e = c.removeRedundant(l); e != api.OK {
		return nil, e
	}
	slices.SortFunc(l, func(x, y api.Component) int { return compareAll(c.ring, x.P, y.P) })
	return l, api.OK
}

// find returns primary ideals whose intersection is the ideal of f, with their primes.
func (c *call) find(f [][]api.Term) ([]api.Component, api.Errno) {
	x, ok, e := c.halve(f)
	if e != api.OK || !ok {
		return nil, e
	}
	l, e := c.components(x)
	if e != api.OK || x.s == 0 {
		return l, e
	}
	p, e := c.power(x.h, x.s)
	if e != api.OK {
		return nil, e
	}
	others, e := c.find(slices.Concat(f, [][]api.Term{p}))
	return slices.Concat(l, others), e
}

// merge adds a component: to that with the same prime, if there is one. There are not
// more of them, as they have been merged before.
func (c *call) merge(l []api.Component, x api.Component) ([]api.Component, api.Errno) {
	for k, y := range slices.Backward(l) {
		if compareAll(c.ring, x.P, y.P) == 0 {
			var e api.Errno
			l[k].Q, e = c.meet(y.Q, x.Q)
			return l, e
		}
	}
	return append(l, x), api.OK
}

// removeRedundant removes the components that contain the intersection of all others,
// from the last one on.
func (c *call) removeRedundant(l []api.Component) ([]api.Component, api.Errno) {
	for k := len(l) - 1; k >= 0 && len(l) > 1; k-- {
		others := slices.Concat(l[:k], l[k+1:])
		g, e := c.meetAll(primaries(others))
		if e != api.OK {
			return nil, e
		}
		is, e := c.isWithin(g, l[k].Q)
		if e != api.OK {
			return nil, e
		}
		if is {
			l = others
		}
	}
	return l, api.OK
}

// primaries returns the primary ideals of components.
func primaries(l []api.Component) [][][]api.Term {
	var all [][][]api.Term
	for _, x := range l {
		all = append(all, x.Q)
	}
	return all
}

// primes returns the primes of the components of the ideal of f, in order.
func (c *call) primes(f [][]api.Term) ([][][]api.Term, api.Errno) {
	l, e := c.decompose(f)
	var all [][][]api.Term
	for _, x := range l {
		all = append(all, x.P)
	}
	return all, e
}

// leastPrimes returns those primes that contain no other one.
func (c *call) leastPrimes(f [][]api.Term) ([][][]api.Term, api.Errno) {
	l, e := c.primes(f)
	if e != api.OK {
		return nil, e
	}
	var least [][][]api.Term
	for k, p := range l {
		contains, e := c.containsOne(p, slices.Concat(l[:k], l[k+1:]))
		if e != api.OK {
			return nil, e
		}
		if !contains {
			least = append(least, p)
		}
	}
	return least, api.OK
}

// containsOne reports whether a prime contains one of the others.
func (c *call) containsOne(p [][]api.Term, others [][][]api.Term) (bool, api.Errno) {
	for _, f := range others {
		if is, e := c.isWithin(f, p); e != api.OK || is {
			return is, e
		}
	}
	return false, api.OK
}

// radical returns the radical of the ideal of f.
func (c *call) radical(f [][]api.Term) ([][]api.Term, api.Errno) {
	l, e := c.leastPrimes(f)
	if e != api.OK {
		return nil, e
	}
	return c.meetAll(l)
}

// hull returns the intersection of the components of the ideal of f that have the
// greatest dimension.
func (c *call) hull(f [][]api.Term) ([][]api.Term, api.Errno) {
	l, e := c.decompose(f)
	if e != api.OK {
		return nil, e
	}
	most := 0
	for _, x := range l {
		most = max(most, c.dimension(x.P))
	}
	l = slices.DeleteFunc(l, func(x api.Component) bool { return c.dimension(x.P) < most })
	return c.meetAll(primaries(l))
}
