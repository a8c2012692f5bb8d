package desk

import (
	"strconv"

	"primrose/api"
	"primrose/ideal"
	"primrose/primary"
	"primrose/stair"
)

// The calls that return the basis of one ideal, or of two, and the remaining fuel.
type (
	callOfOne func(r api.Ring, f [][]api.Term, fuel int) (g [][]api.Term, left int, e api.Errno)
	callOfTwo func(r api.Ring, f, h [][]api.Term, fuel int) (g [][]api.Term, left int, e api.Errno)
)

// tellOne outputs the basis that a call returns for one ideal.
func (d *desk) tellOne(words []string, call callOfOne) api.Errno {
	f, e := d.one(words)
	if e != api.OK {
		return e
	}
	g, _, e := call(d.ring, f, d.fuel)
	return d.tellResult(g, e)
}

// tellTwo outputs the basis that a call returns for two ideals.
func (d *desk) tellTwo(words []string, call callOfTwo) api.Errno {
	f, h, e := d.two(words)
	if e != api.OK {
		return e
	}
	g, _, e := call(d.ring, f, h, d.fuel)
	return d.tellResult(g, e)
}

// tellDim outputs a dimension.
func (d *desk) tellDim(words []string) api.Errno {
	f, e := d.one(words)
	if e != api.OK {
		return e
	}
	dim, _, e := stair.Dim(d.ring, f, d.fuel)
	if e != api.OK {
		return e
	}
	d.tell(strconv.Itoa(dim))
	return api.OK
}

// tellComponents outputs the components of an ideal.
func (d *desk) tellComponents(words []string) api.Errno {
	f, e := d.one(words)
	if e != api.OK {
		return e
	}
	components, _, e := primary.Decompose(d.ring, f, d.fuel)
	if e != api.OK {
		return e
	}
	for _, c := range components {
		d.tell("component")
		d.tellBasis(c.Q)
		d.tell("prime")
		d.tellBasis(c.P)
	}
	d.tell("ok")
	return api.OK
}

// tellPrimes outputs the primes of an ideal, or those that contain no other one.
func (d *desk) tellPrimes(words []string, least bool) api.Errno {
	f, e := d.one(words)
	if e != api.OK {
		return e
	}
	primes, _, e := primary.Primes(d.ring, f, least, d.fuel)
	if e != api.OK {
		return e
	}
	for _, p := range primes {
		d.tell("prime")
		d.tellBasis(p)
	}
	d.tell("ok")
	return api.OK
}

// tellSubset outputs whether an ideal is contained in another one.
func (d *desk) tellSubset(words []string) api.Errno {
	f, h, e := d.two(words)
	if e != api.OK {
		return e
	}
	is, _, e := ideal.Subset(d.ring, f, h, d.fuel)
	return d.tellWhether(is, e)
}

// tellEliminated outputs an ideal without the first variables.
func (d *desk) tellEliminated(words []string) api.Errno {
	if len(words) != 3 {
		return api.ErrLine
	}
	k, ok := number(words[2])
	if !ok {
		return api.ErrLine
	}
	f, e := d.named(words[1])
	if e != api.OK {
		return e
	}
	g, _, e := ideal.Eliminate(d.ring, f, k, d.fuel)
	return d.tellResult(g, e)
}

// tellMember outputs whether a polynomial is in an ideal.
func (d *desk) tellMember(line string) api.Errno {
	f, p, e := d.oneAndText(line)
	if e != api.OK {
		return e
	}
	is, _, e := ideal.Member(d.ring, p, f, d.fuel)
	return d.tellWhether(is, e)
}

// tellSaturated outputs the power of a polynomial that suffices, and the saturation by it.
func (d *desk) tellSaturated(line string) api.Errno {
	f, p, e := d.oneAndText(line)
	if e != api.OK {
		return e
	}
	g, s, _, e := ideal.Saturate(d.ring, f, p, d.fuel)
	if e != api.OK {
		return e
	}
	d.tell(strconv.Itoa(s))
	d.tellBasis(g)
	return api.OK
}
