package primary_test

import (
	"cmp"
	"slices"

	"primrose/api"
	"primrose/basis"
	"primrose/extend"
	"primrose/fraction"
	"primrose/ideal"
	"primrose/mono"
	"primrose/poly"
	"primrose/reduce"
	"primrose/several"
	"primrose/stair"
)

// words are the chapter's words, done as they stand there by the calls of the layers
// below, with an error as a panic.
type words struct {
	r    api.Ring
	left int
	told
}

// told is what the words tell of their way.
type told struct {
	parts   []part          // what takes fuel, in order
	fault   string          // what an error occurs in
	powers  []int           // s of each half
	found   []api.Component // before they are merged
	merged  []string        // how the Qs that are merged lie to each other
	removed []int           // the places of the components that are removed
	passed  []int           // the place of the polynomial of which something remains, in each test of one that is not
}

// part is a part of a call that takes fuel.
type part struct {
	name  string
	steps int
}

// done takes the fuel of a part, or panics with its error.
func (c *words) done(name string, left int, e api.Errno) {
	if e != api.OK {
		c.fault = name
		panic(e)
	}
	c.parts = append(c.parts, part{name, c.left - left})
	c.left = left
}

func (c *words) basis(name string, r api.Ring, f [][]api.Term) [][]api.Term {
	g, left, e := basis.Reduced(r, f, c.left)
	c.done(name, left, e)
	return g
}

func (c *words) contract(f [][]api.Term, u []int) [][]api.Term {
	g, left, e := extend.Contract(c.r, f, u, c.left)
	c.done("contract", left, e)
	return g
}

func (c *words) meet(f, h [][]api.Term) [][]api.Term {
	g, left, e := ideal.Meet(c.r, f, h, c.left)
	c.done("meet", left, e)
	return g
}

func (c *words) meetAll(l [][][]api.Term) [][]api.Term {
	g := [][]api.Term{number(c.r, 1)}
	for _, f := range l {
		g = c.meet(g, f)
	}
	return g
}

// areWithin divides polynomials by a basis, up to the first remainder that is not 0.
func (c *words) areWithin(f, g [][]api.Term) bool {
	for k, p := range f {
		rest, left, e := reduce.Rem(c.r, p, g, c.left)
		c.done("divide", left, e)
		if len(rest) > 0 {
			c.passed = append(c.passed, k)
			return false
		}
	}
	return true
}

// moved is a polynomial whose exponents stand at other places: that of the variable at
// each place is the one with the index there, or 0 if there is none.
func moved(p []api.Term, places []int) []api.Term {
	var l []api.Term
	for _, t := range p {
		e := make([]int, len(places))
		for place, i := range places {
			if i < len(t.E) {
				e[place] = t.E[i]
			}
		}
		l = append(l, api.Term{C: t.C, E: e})
	}
	return l
}

// newName is the name of a variable that the ring does not have.
func newName(r api.Ring) string {
	name := "t"
	for slices.Contains(r.Names, name) {
		name += "t"
	}
	return name
}

// around is a ring, and the rings that also have a new variable.
type around struct {
	u, others          []int
	wide, middle, thin api.Ring // wide has the new variable behind all others
	places             []int    // the index in wide of the variable at each place of middle
}

func aroundOf(r api.Ring, u []int) around {
	a := around{u: u, wide: api.Ring{Names: slices.Concat(r.Names, []string{newName(r)})}}
	for i := range r.Names {
		if !slices.Contains(u, i) {
			a.others = append(a.others, i)
		}
	}
	a.places = slices.Concat(a.others, []int{len(r.Names)}, u)
	for _, i := range a.places {
		a.middle.Names = append(a.middle.Names, a.wide.Names[i])
	}
	a.middle.Order, a.middle.First = api.Block, len(a.others)
	a.thin = api.Ring{Names: a.middle.Names[len(a.others):]}
	return a
}

// form is a linear form in the wide ring.
func (a around) form(l []int) []api.Term {
	p := number(a.wide, 0)
	for k, n := range l {
		p = plus(a.wide, p, times(a.wide, number(a.wide, n), variable(a.wide, a.others[k], 1)))
	}
	return p
}

// factors are those of the minimal polynomial of a linear form.
func (c *words) factors(a around, g [][]api.Term, form []api.Term) []api.Part {
	var l [][]api.Term
	for _, p := range g {
		l = append(l, moved(p, a.places))
	}
	l = append(l, moved(minus(a.wide, variable(a.wide, len(c.r.Names), 1), form), a.places))
	b := slices.DeleteFunc(c.basis("middle", a.middle, l), func(p []api.Term) bool {
		return slices.ContainsFunc(p, func(t api.Term) bool { return slices.Max(t.E[:len(a.others)]) > 0 })
	})
	if len(b) != 1 {
		c.fault = "elements"
		panic(api.ErrPoint)
	}
	var p []api.Term
	for _, t := range b[0] {
		p = append(p, api.Term{C: t.C, E: t.E[len(a.others):]})
	}
	_, parts, e := several.Factor(a.thin, must(poly.Monic(a.thin, p)))
	c.done("factor", c.left, e)
	return parts
}

// substitute is a polynomial of the thin ring with a form instead of the new variable.
func (c *words) substitute(a around, p, form []api.Term) []api.Term {
	n := len(c.r.Names)
	var l []api.Term
	for _, t := range p {
		e := make([]int, n+1)
		e[n] = t.E[0]
		for k, i := range a.u {
			e[i] = t.E[1+k]
		}
		l = append(l, api.Term{C: t.C, E: e})
	}
	var back []api.Term
	for _, t := range must(poly.Subst(a.wide, l, n, form)) {
		back = append(back, api.Term{C: t.C, E: t.E[:n]})
	}
	return back
}

func (c *words) radicalOf(a around, g [][]api.Term) [][]api.Term {
	l := slices.Clone(g)
	for _, i := range a.others {
		product := number(a.thin, 1)
		form := variable(a.wide, i, 1)
		for _, x := range c.factors(a, g, form) {
			product = times(a.thin, product, x.P)
		}
		l = append(l, c.substitute(a, product, form))
	}
	return c.contract(l, a.u)
}

// attempt returns the components if all parts succeed.
func (c *words) attempt(a around, g [][]api.Term, form []api.Term) (l []api.Component, ok bool) {
	for _, x := range c.factors(a, g, form) {
		product := number(a.thin, 1)
		for range x.N {
			product = times(a.thin, product, x.P)
		}
		q := c.contract(append(slices.Clone(g), c.substitute(a, product, form)), a.u)
		p := c.radicalOf(a, q)
		n, left, e := extend.Degree(c.r, p, a.u, c.left)
		c.done("degree", left, e)
		if most, _ := poly.Degree(a.thin, x.P, 0); n != most {
			return nil, false
		}
		l = append(l, api.Component{Q: q, P: p})
	}
	return l, true
}

func (c *words) components(g [][]api.Term, u []int) []api.Component {
	a := aroundOf(c.r, u)
	for k := range 50 {
		powers := []int{1}
		for range len(a.others) - 1 {
			powers = append(powers, powers[len(powers)-1]*k)
		}
		if l, ok := c.attempt(a, g, a.form(powers)); ok {
			return l
		}
	}
	c.fault = "attempts"
	panic(api.ErrLong)
}

func (c *words) find(f [][]api.Term) []api.Component {
	u, h, g, s, left, e := extend.Halve(c.r, f, c.left)
	if e == api.ErrWhole {
		c.basis("basis", c.r, f)
		return nil
	}
	c.done("halve", left, e)
	c.powers = append(c.powers, s)
	l := []api.Component{{Q: g, P: g}}
	if len(u) < len(c.r.Names) {
		l = c.components(g, u)
	}
	if s == 0 {
		return l
	}
	p := number(c.r, 1)
	for range s {
		var e api.Errno
		p, e = poly.Mul(c.r, p, h)
		c.done("power", c.left, e)
	}
	return append(l, c.find(append(slices.Clone(f), p))...)
}

// merge merges components.
func (c *words) merge(all []api.Component) []api.Component {
	var l []api.Component
	for _, x := range all {
		k := slices.IndexFunc(l, func(y api.Component) bool { return areSame(x.P, y.P) })
		if k < 0 {
			l = append(l, x)
			continue
		}
		both := c.meet(l[k].Q, x.Q)
		c.merged = append(c.merged, relation(l[k].Q, x.Q, both))
		l[k].Q = both
	}
	return l
}

// relation tells how two ideals lie to each other.
func relation(f, h, both [][]api.Term) string {
	switch first, second := areSame(f, both), areSame(h, both); {
	case first && second:
		return "same"
	case first:
		return "within"
	case second:
		return "around"
	}
	return "beside"
}

func (c *words) removeRedundant(l []api.Component) []api.Component {
	for k := len(l) - 1; k >= 0; k-- {
		if len(l) == 1 {
			break
		}
		var others []api.Component
		for i, x := range l {
			if i != k {
				others = append(others, x)
			}
		}
		if c.areWithin(c.meetAll(qs(others)), l[k].Q) {
			c.removed = append(c.removed, k)
			l = others
		}
	}
	return l
}

func qs(l []api.Component) [][][]api.Term {
	var all [][][]api.Term
	for _, x := range l {
		all = append(all, x.Q)
	}
	return all
}

func ps(l []api.Component) [][][]api.Term {
	var all [][][]api.Term
	for _, x := range l {
		all = append(all, x.P)
	}
	return all
}

// compare orders polynomials as layer 14 does.
func compare(r api.Ring, p, q []api.Term) int {
	if len(p) != len(q) {
		return cmp.Compare(len(p), len(q))
	}
	for k := range p {
		if order := cmp.Or(mono.Cmp(r, p[k].E, q[k].E), fraction.Cmp(p[k].C, q[k].C)); order != 0 {
			return order
		}
	}
	return 0
}

func (c *words) decompose(f [][]api.Term) []api.Component {
	return c.settle(c.find(f))
}

func (c *words) settle(found []api.Component) []api.Component {
	c.found = found
	l := c.removeRedundant(c.merge(found))
	slices.SortFunc(l, func(x, y api.Component) int {
		if len(x.P) != len(y.P) {
			return cmp.Compare(len(x.P), len(y.P))
		}
		return slices.CompareFunc(x.P, y.P, func(p, q []api.Term) int { return compare(c.r, p, q) })
	})
	return l
}

func (c *words) primes(f [][]api.Term, least bool) [][][]api.Term {
	l := ps(c.decompose(f))
	if !least {
		return l
	}
	var minimal [][][]api.Term
all:
	for k, p := range l {
		for i, q := range l {
			if i != k && c.areWithin(q, p) {
				continue all
			}
		}
		minimal = append(minimal, p)
	}
	return minimal
}

func (c *words) radical(f [][]api.Term) [][]api.Term {
	return c.meetAll(c.primes(f, true))
}

func (c *words) hull(f [][]api.Term) [][]api.Term {
	l := c.decompose(f)
	most := -1
	var best [][][]api.Term
	for _, x := range l {
		dim, _, e := stair.Dim(c.r, x.P, api.MaxFuel)
		if e != api.OK {
			panic("no dimension")
		}
		if dim > most {
			most, best = dim, nil
		}
		if dim == most {
			best = append(best, x.Q)
		}
	}
	return c.meetAll(best)
}
